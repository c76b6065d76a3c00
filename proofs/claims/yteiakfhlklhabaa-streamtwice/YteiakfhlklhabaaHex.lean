/- Bytes written as digits: what the program's own 'Hex' comes to. -/
import Derived.Test.YteiakfhlklhabaaStream
import Derived.Deep.RegionHeld3
import Derived.Deep.DrawnRows
import Derived.Deep.RegionLaw
namespace Go.Proofs.Yteiakfhlklhabaa
open Go.RowKit
attribute [local go_sem ↓] Go.wp_at_zero Go.wp_at_succ
/-- A digit. -/
def hxd (n : Nat) : UInt8 := if n < 10 then UInt8.ofNat (48 + n) else UInt8.ofNat (87 + n)
/-- The digits of bytes. -/
def hexL (l : List UInt8) : List UInt8 := l.flatMap fun c => [hxd (c.toNat / 16), hxd (c.toNat % 16)]
def digs : ByteArray := ⟨#[48, 49, 50, 51, 52, 53, 54, 55, 56, 57, 97, 98, 99, 100, 101, 102]⟩
theorem idx16 : ∀ (n : Nat) (_h : n < 16) (w : World), (Instr.index 9 (.string ⟨#[48, 49, 50, 51, 52, 53, 54, 55, 56, 57, 97, 98, 99, 100, 101, 102]⟩) (.int .u8 (n : Int))).run Try.prog w = .ok (.int .u8 ((hxd n).toNat : Int)) w
  | 0, _ => fun _ => by kernel_rfl
  | 1, _ => fun _ => by kernel_rfl
  | 2, _ => fun _ => by kernel_rfl
  | 3, _ => fun _ => by kernel_rfl
  | 4, _ => fun _ => by kernel_rfl
  | 5, _ => fun _ => by kernel_rfl
  | 6, _ => fun _ => by kernel_rfl
  | 7, _ => fun _ => by kernel_rfl
  | 8, _ => fun _ => by kernel_rfl
  | 9, _ => fun _ => by kernel_rfl
  | 10, _ => fun _ => by kernel_rfl
  | 11, _ => fun _ => by kernel_rfl
  | 12, _ => fun _ => by kernel_rfl
  | 13, _ => fun _ => by kernel_rfl
  | 14, _ => fun _ => by kernel_rfl
  | 15, _ => fun _ => by kernel_rfl
  | n + 16, h => absurd h (by omega)
theorem byte_hi (c : UInt8) (w : World) : (Instr.index 9 (.string ⟨#[48, 49, 50, 51, 52, 53, 54, 55, 56, 57, 97, 98, 99, 100, 101, 102]⟩) (.int .u8 ((c.toNat : Int) / 16))).run Try.prog w = .ok (.int .u8 ((hxd (c.toNat / 16)).toNat : Int)) w := by
  have h := idx16 (c.toNat / 16) (by have := c.toNat_lt; omega) w
  rwa [Int.natCast_ediv] at h
theorem byte_and (c : UInt8) : bits .and .u8 (c.toNat : Int) 15 = ((c.toNat % 16 : Nat) : Int) := by
  have h := u8_and_nat c.toNat 15 c.toNat_lt (by omega)
  rw [nat_mask4] at h
  exact h
theorem byte_lo (c : UInt8) (w : World) : (Instr.index 9 (.string ⟨#[48, 49, 50, 51, 52, 53, 54, 55, 56, 57, 97, 98, 99, 100, 101, 102]⟩) (.int .u8 (bits .and .u8 (c.toNat : Int) 15))).run Try.prog w = .ok (.int .u8 ((hxd (c.toNat % 16)).toNat : Int)) w := by
  rw [byte_and]
  exact idx16 (c.toNat % 16) (by omega) w
theorem byte_at (s : ByteArray) (k : Nat) (h : k < s.size) (w : World) : (Instr.index 9 (.string s) (.int .i64 (k : Int))).run Try.prog w = .ok (.int .u8 ((s[k].toNat : Nat) : Int)) w := by
  rw [run_index_string w 9 s .i64 k Try.underlying9]
  simp [h]
theorem two_u8 (a b : Int) : ∀ u ∈ [Value.int .u8 a, .int .u8 b], u.oneCell' = true := by
  intro u hu
  simp at hu
  rcases hu with rfl | rfl <;> rfl
theorem bytes_two (l : List UInt8) (x y : UInt8) : bytesV l ++ [Value.int .u8 (x.toNat : Int), .int .u8 (y.toNat : Int)] = bytesV (l ++ [x, y]) := by
  simp [bytesV]
theorem BR.of_owns' {w : World} {base : Nat} {e : TypeId} {g n cap : Nat} {xs : List Value} (h : w.ownsRow base e 1 (.slice (some ⟨g, 0, none⟩) n cap) n xs) : BR w base e g n cap xs := by
  obtain ⟨hl, h2⟩ := h
  rcases h2 with ⟨h0, _⟩ | ⟨g', cap', cur, hv, hb, hg, hle, _, hs, ht⟩
  · simp at h0
  · simp only [Nat.mul_one] at hl hs ht
    simp only [Value.slice.injEq, Option.some.injEq, Addr.mk.injEq, and_true, true_and] at hv
    obtain ⟨rfl, rfl⟩ := hv
    exact ⟨hl, hb, hle, cur, (0, 0), hg, hs, ht, .inl (Nat.le_refl _)⟩
theorem hexL_step (l : List UInt8) (k : Nat) (h : k < l.length) : hexL (l.take k) ++ [hxd (l[k].toNat / 16), hxd (l[k].toNat % 16)] = hexL (l.take (k + 1)) := by
  rw [List.take_succ_eq_append_getElem h]
  unfold hexL
  rw [List.flatMap_append]
  simp
set_option maxRecDepth 100000 in
set_option maxHeartbeats 400000 in
theorem hex_any (s : ByteArray) (w : World) (hs : s.size ≤ 100000) :
    Calls Try.prog 8 #[.string s] w fun e w' => e = .returned (.string ⟨(hexL s.data.toList).toArray⟩) ∧ Below w.heap.size w w' := by
  obtain ⟨i5, hE⟩ := elemB
  go_enter Try.func8, Try.ntmps8
  go_wp2_with (at_make; refine wpList_make_own _ rfl _ _ 29 rfl w.heap.size 5 i5 (.int .u8 0) 1 hE.ht hE.hi hE.hz hE.hs .i64 .i64 _ (2 * s.size) rfl rfl (by omega) (by rw [hE.hb]; omega) (by unfold maxLen; omega) (Nat.le_refl _) ?_; intro w1 ho1 hg1)
  go_loopw [3, 11] (fun t i wr => ∃ k g cap : Nat, k ≤ s.size ∧ i = .int .i64 k ∧ t = .slice (some ⟨g, 0, none⟩) (2 * k) cap ∧ wr.ownsRow w.heap.size 5 1 t (2 * k) (bytesV (hexL (s.data.toList.take k))) ∧ Below w.heap.size w wr)
    (fun _ i _ => s.size - (intOf i).toNat)
  case atStart => exact ⟨0, _, _, by omega, rfl, rfl, by simpa [hexL, bytesV] using ho1, (Below.refl _ w).grown hg1 (Nat.le_refl _) (by intro k hk; simp at hk)⟩
  case round =>
    obtain ⟨k, g0, cap0, hk, rfl, rfl, hr, hb⟩ := hrel
    have hbs := hb.size
    by_cases hlt : k < s.size
    · have hi1 : (0 : Int) ≤ (k : Int) := by omega
      have hi2 : (k : Int) < (s.size : Int) := by omega
      have hsk := byte_at s k hlt
      have hst : hexL (s.data.toList.take k) ++ [hxd (s[k].toNat / 16), hxd (s[k].toNat % 16)] = hexL (s.data.toList.take (k + 1)) := hexL_step s.data.toList k hlt
      generalize s[k] = c at hsk hst
      have hh := byte_hi c
      have hl := byte_lo c
      have HST := hide hst
      clear hst
      go_wp2_with fail
      go_region_held3 (fun _ => True) (trivial) ((refine step_append_lies _ (by rfl) _ _ _ (by rfl) w.heap.size 5 i5 (.int .u8 0) 1 1 hE.ht hE.hi hE.hz hE.hs hE.hb (by rfl) (by omega) _ (2 * k) (bytesV (hexL (s.data.toList.take k))) (by rfl) (by exact hr.alloc _) ⟨wr.heap.size, 0, none⟩ 2 2 [.int .u8 ((hxd (c.toNat / 16)).toNat : Int), .int .u8 ((hxd (c.toNat % 16)).toNat : Int)] (by rfl) (by rfl) (by exact World.news_of_block (heap_alloc_new wr _)) (two_u8 _ _) (by omega) (by unfold maxLen; omega) (by omega) (by simp; omega) _ rfl ?_; intro g cap w2 ho2 hg2 hat2 hlt2))
      all_goals (
        go_wp2
        go_roundw
        case rel => exact ⟨k + 1, g, cap, by omega, by go_num, rfl, by rw [← HST.out, ← bytes_two]; exact ho2, ((hb.alloc hbs _).drew).grown hg2 (by simp; omega) (fun j hj => (hr.lt j hj).1)⟩
        case measure => simp [intOf]; omega)
    · obtain rfl : k = s.size := by omega
      have e : s.data.toList.take s.size = s.data.toList := List.take_of_length_le (Nat.le_refl _)
      rw [e] at hr
      go_wp2_with ((with_reducible refine conv_out g0 (2 * s.size) cap0 (hexL s.data.toList) ?_ (BR.of_owns' hr) ?_); rfl)
      go_ret
      exact ⟨rfl, hb⟩
end Go.Proofs.Yteiakfhlklhabaa
