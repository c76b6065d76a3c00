/- A number from 256 to 511 written by the library in digits of sixteen: three digits, the first of them a one. -/
import Derived.Test.YtlonhknccdijlaaDoorHex
import Derived.Test.YtlonhknccdijlaaDoorNum
namespace Go.Proofs.YtlonhknccdijlaaDoor
open Go.RowKit
/-- Bytes in the middle of a block turned into a text. -/
theorem conv_at {ops : Array Oper} {rest : List Oper} {a : Act} {w : World} {Q : Exit → Act → World → Prop} {tt : TypeId} {pos : String} {af : Array Edge} {x : Operand} {d : Tmp} (ad : Addr) (l : List UInt8) (cap : Nat) (hx : a.eval x = .slice (some ad) l.length cap)
    (hc : ∀ j (hj : j < l.length), w.cell? (ad.add j) = some (.int .u8 (l[j].toNat : Int))) (h : wpList Tryd.prog ops Q rest (a.put (some d) (.string ⟨l.toArray⟩)) w) :
    wpList Tryd.prog ops Q (⟨some d, .convert 42 9 x, tt, pos, af, none⟩ :: rest) a w := by
  refine wpList_plain rfl fun K hK => ?_
  have hrun := run_convert_bytes_back (P := Tryd.prog) w 42 9 5 ad cap l Tryd.underlying42 Tryd.underlying5 Tryd.underlying9 hc
  unfold Oper.wp execOp
  simp only [hx, Sem.run_bind, hrun, Result.andThen_ok, Sem.run_pure]
  exact hK _ _ h
/-- What is read of the library's own table. -/
def TabD (w : World) : Prop := w.cell? ⟨3, 15, none⟩ = some (.int .u8 4)
theorem TabD.below {w w' : World} {B : Nat} (h : TabD w) (hb : Below B w w') (hB : 3 < B) : TabD w' := by
  unfold TabD at *
  rw [hb.cell (p := ⟨3, 15, none⟩) hB]; exact h
theorem TabD.lt {w : World} (h : TabD w) : 3 < w.heap.size := block_lt_of_cell h
set_option maxRecDepth 100000 in
set_option maxHeartbeats 400000 in
theorem tz_any (w : World) (hD : TabD w) : Calls Tryd.prog 37 #[.int .u64 16] w fun e w' => e = .returned (.int .i64 4) ∧ w' = w := by
  unfold TabD at hD
  have b1 : bits .and .u64 16 (IntKind.u64.wrap (-16)) = 16 := by decide +kernel
  go_enter Tryd.func37, Tryd.ntmps37
  go_wp2
  go_ret
  exact ⟨rfl, rfl⟩
/-- Sixty-five noughts as cells. -/
def z65 : Array Value := #[.int .u8 0, .int .u8 0, .int .u8 0, .int .u8 0, .int .u8 0, .int .u8 0, .int .u8 0, .int .u8 0, .int .u8 0, .int .u8 0, .int .u8 0, .int .u8 0, .int .u8 0, .int .u8 0, .int .u8 0, .int .u8 0, .int .u8 0, .int .u8 0, .int .u8 0, .int .u8 0, .int .u8 0, .int .u8 0, .int .u8 0, .int .u8 0, .int .u8 0, .int .u8 0, .int .u8 0, .int .u8 0, .int .u8 0, .int .u8 0, .int .u8 0, .int .u8 0, .int .u8 0, .int .u8 0, .int .u8 0, .int .u8 0, .int .u8 0, .int .u8 0, .int .u8 0, .int .u8 0, .int .u8 0, .int .u8 0, .int .u8 0, .int .u8 0, .int .u8 0, .int .u8 0, .int .u8 0, .int .u8 0, .int .u8 0, .int .u8 0, .int .u8 0, .int .u8 0, .int .u8 0, .int .u8 0, .int .u8 0, .int .u8 0, .int .u8 0, .int .u8 0, .int .u8 0, .int .u8 0, .int .u8 0, .int .u8 0, .int .u8 0, .int .u8 0, .int .u8 0]
theorem zero60 (w : World) : (zeroValue 60).run Tryd.prog w = .ok (.agg z65) w := by kernel_rfl
theorem idx36 : ∀ (n : Nat) (_h : n < 16) (w : World), (Instr.index 9 (.string ⟨#[48, 49, 50, 51, 52, 53, 54, 55, 56, 57, 97, 98, 99, 100, 101, 102, 103, 104, 105, 106, 107, 108, 109, 110, 111, 112, 113, 114, 115, 116, 117, 118, 119, 120, 121, 122]⟩) (.int .u64 (n : Int))).run Tryd.prog w = .ok (.int .u8 ((hxd n).toNat : Int)) w
  | 0, _ => fun _ => by kernel_rfl
  | 1, _ => fun _ => by kernel_rfl
  | 2, _ => fun _ => by kernel_rfl
  | 3, _ => fun _ => by kernel_rfl
  | 4, _ => fun _ => by kernel_rfl
  | 5, _ => fun _ => by kernel_rfl
  | 6, _ => fun _ => by kernel_rfl
  | 7, _ => fun _ => by kernel_rfl
  | 8, _ => fun _ => by kernel_rfl
  | 9, _ => fun _ => by kernel_rfl
  | 10, _ => fun _ => by kernel_rfl
  | 11, _ => fun _ => by kernel_rfl
  | 12, _ => fun _ => by kernel_rfl
  | 13, _ => fun _ => by kernel_rfl
  | 14, _ => fun _ => by kernel_rfl
  | 15, _ => fun _ => by kernel_rfl
  | n + 16, h => absurd h (by omega)
theorem dig36 (u : Nat) (hu : u < 18446744073709551616) (w : World) : (Instr.index 9 (.string ⟨#[48, 49, 50, 51, 52, 53, 54, 55, 56, 57, 97, 98, 99, 100, 101, 102, 103, 104, 105, 106, 107, 108, 109, 110, 111, 112, 113, 114, 115, 116, 117, 118, 119, 120, 121, 122]⟩) (.int .u64 (bits .and .u64 (u : Int) 15))).run Tryd.prog w = .ok (.int .u8 ((hxd (u % 16)).toNat : Int)) w := by
  have h := u64_and_nat u 15 hu (by omega)
  rw [nat_mask4] at h
  have h' : bits .and .u64 (u : Int) 15 = ((u % 16 : Nat) : Int) := h
  rw [h']
  exact idx36 (u % 16) (by omega) w
/-- The cells behind j digits. -/
def zz (x : Nat) : Nat → Array Value
  | 0 => z65
  | j + 1 => (zz x j).setIfInBounds (64 - j) (.int .u8 ((hxd (x / 16 ^ j % 16)).toNat : Int))
theorem zz_size (x j : Nat) : (zz x j).size = 65 := by
  induction j with
  | zero => rfl
  | succ j ih => simp [zz, ih]
theorem zz_some (x j i : Nat) (h : i < 65) : ∃ v, (zz x j)[i]? = some v := by
  rw [Array.getElem?_eq_getElem (by rw [zz_size]; exact h)]; exact ⟨_, rfl⟩
set_option maxRecDepth 100000 in
set_option maxHeartbeats 1000000 in
theorem bits_any (x : Nat) (w : World) (hx1 : 256 ≤ x) (hx2 : x < 512) (hD : TabD w) :
    Calls Tryd.prog 31 #[.slice none 0 0, .int .u64 x, .int .i64 16, .bool false, .bool false] w fun e w' => e = .returned (.tuple #[.slice none 0 0, .string ⟨#[49, hxd (x / 16 % 16), hxd (x % 16)]⟩]) ∧ Below w.heap.size w w' := by
  have b1 : bits .and .i64 16 15 = 0 := by decide +kernel
  have h3 := hD.lt
  have hz := zero60
  go_enter Tryd.func31, Tryd.ntmps31
  go_wp2_with (first | (go_at_call 37; refine (tz_any _ (hD.below ((Below.refl _ w).alloc (Nat.le_refl _) _) h3)).mono ?_; rintro e w' ⟨rfl, rfl⟩) | go_in)
  go_loopw [1, 13] (fun u i wr => ∃ j : Nat, j ≤ 2 ∧ u = .int .u64 ((x / 16 ^ j : Nat) : Int) ∧ i = .int .i64 (65 - (j : Int)) ∧ HasR wr w.heap.size 60 (zz x j) ∧ Below w.heap.size w wr)
    (fun _ i _ => (intOf i).toNat)
  case atStart => exact ⟨0, by omega, by simp, by simp, HasR.new w 60 z65, (Below.refl _ _).alloc (Nat.le_refl _) _⟩
  case round =>
    obtain ⟨j, hj, rfl, rfl, hr, hb⟩ := hrel
    by_cases hlt : j < 2
    · have hdx := dig36 (x / 16 ^ j) (by have := Nat.div_le_self x (16 ^ j); omega)
      have hnx := hide (show x / 16 ^ (j + 1) = x / 16 ^ j / 16 by rw [Nat.pow_succ, Nat.div_div_eq_div_mul])
      obtain ⟨v, hv⟩ := zz_some x j (64 - j) (by omega)
      have hc : wr.cell? ⟨w.heap.size, 64 - j, none⟩ = some v := by rw [hr.cell, hv]
      have hf := hr.free (64 - j)
      have hset : HasR (wr.setCell ⟨w.heap.size, 64 - j, none⟩ (.int .u8 ((hxd (x / 16 ^ j % 16)).toNat : Int))) w.heap.size 60 (zz x (j + 1)) := hr.set (64 - j) (.int .u8 ((hxd (x / 16 ^ j % 16)).toNat : Int))
      have hul : x / 16 ^ j < 512 := by have := Nat.div_le_self x (16 ^ j); omega
      have hu1 : 16 ≤ x / 16 ^ j := by
        rcases (show j = 0 ∨ j = 1 by omega) with rfl | rfl
        · simp; omega
        · simp; omega
      generalize x / 16 ^ j = u at hdx hnx hset hul hu1
      clear hv
      have hi0 : (0 : Int) ≤ (j : Int) := by omega
      have hi1 : (65 - (j : Int) - 1) < 65 := by omega
      have ht : (65 - (j : Int) - 1).toNat = 64 - j := by omega
      go_wp2
      go_roundw
      case rel => exact ⟨j + 1, by omega, by rw [hnx.out]; simp, by simp; omega, hset, hb.setCell (Nat.le_refl _) _⟩
      case measure => simp [intOf]; omega
    · obtain rfl : j = 2 := by omega
      have hu2 : x / 16 ^ 2 = 1 := by omega
      have hdx := idx36 1 (by omega)
      have hc : wr.cell? ⟨w.heap.size, 62, none⟩ = some (.int .u8 0) := hr.cell 62
      have hf := hr.free 62
      have hset := hr.set 62 (.int .u8 49)
      have hcs : ∀ j (hj : j < [49, hxd (x / 16 % 16), hxd (x % 16)].length), (wr.setCell ⟨w.heap.size, 62, none⟩ (.int .u8 49)).cell? ((⟨w.heap.size, 62, none⟩ : Addr).add j) = some (.int .u8 (([49, hxd (x / 16 % 16), hxd (x % 16)][j].toNat : Nat) : Int)) := by
        intro j hj
        rw [Addr.add_lit, hset.cell]
        match j, hj with
        | 0, _ => rfl
        | 1, _ =>
          have e : (zz x 2)[63]? = some (.int .u8 ((hxd (x / 16 % 16)).toNat : Int)) := by simp [zz, z65]
          rw [Array.getElem?_setIfInBounds_ne (by omega)]
          exact e
        | 2, _ =>
          have e : (zz x 2)[64]? = some (.int .u8 ((hxd (x % 16)).toNat : Int)) := by simp [zz, z65]
          rw [Array.getElem?_setIfInBounds_ne (by omega)]
          exact e
      have hb' := hb.setCell (p := ⟨w.heap.size, 62, none⟩) (Nat.le_refl _) (.int .u8 49)
      clear hset hr hb hdx
      rw [hu2]
      go_wp2_with ((with_reducible refine conv_at ⟨w.heap.size, 62, none⟩ [49, hxd (x / 16 % 16), hxd (x % 16)] 3 ?_ ?_ ?_); rfl; exact hcs)
      go_ret2
      exact ⟨rfl, hb'⟩
set_option maxRecDepth 100000 in
set_option maxHeartbeats 400000 in
theorem fmtI_any (x : Nat) (w : World) (hx1 : 256 ≤ x) (hx2 : x < 512) (hD : TabD w) :
    Calls Tryd.prog 24 #[.int .i64 x, .int .i64 16] w fun e w' => e = .returned (.string ⟨#[49, hxd (x / 16 % 16), hxd (x % 16)]⟩) ∧ Below w.heap.size w w' := by
  have hneg : decide ((x : Int) < 0) = false := by simp
  go_enter Tryd.func24, Tryd.ntmps24
  go_wp2_with (go_at_call 31; refine (bits_any x _ hx1 hx2 hD).mono ?_; rintro e w' ⟨rfl, hb⟩)
  go_ret
  exact ⟨rfl, hb⟩
set_option maxRecDepth 100000 in
set_option maxHeartbeats 400000 in
theorem fmt_any (x : Nat) (w : World) (hx1 : 256 ≤ x) (hx2 : x < 512) (hD : TabD w) :
    Calls Tryd.prog 20 #[.int .i64 x, .int .i64 16] w fun e w' => e = .returned (.string ⟨#[49, hxd (x / 16 % 16), hxd (x % 16)]⟩) ∧ Below w.heap.size w w' := by
  go_enter Tryd.func20, Tryd.ntmps20
  go_wp2_with (go_at_call 24; refine (fmtI_any x _ hx1 hx2 hD).mono ?_; rintro e w' ⟨rfl, hb⟩)
  go_ret
  exact ⟨rfl, hb⟩
theorem str_two (t : List UInt8) (a b c : UInt8) : Value.string ((⟨t.toArray⟩ : ByteArray) ++ (⟨#[a, b, c]⟩ : ByteArray).extract 1 3) = .string ⟨(t ++ [b, c]).toArray⟩ := by
  have e : (⟨#[a, b, c]⟩ : ByteArray).extract 1 3 = ⟨#[b, c]⟩ := by
    apply ByteArray.ext
    rw [ByteArray.data_extract]
    rfl
  rw [e, bytes_app]
  simp
set_option maxRecDepth 100000 in
set_option maxHeartbeats 400000 in
theorem refHex_any (s : ByteArray) (w : World) (hs : s.size ≤ 100000) (hD : TabD w) :
    Calls Tryd.prog 9 #[.string s] w fun e w' => e = .returned (.string ⟨(hexL s.data.toList).toArray⟩) ∧ Below w.heap.size w w' := by
  have h3 := hD.lt
  go_enter Tryd.func9, Tryd.ntmps9
  go_wp2
  go_loopw [3, 7] (fun t i wr => ∃ k : Nat, k ≤ s.size ∧ i = .int .i64 k ∧ t = .string ⟨(hexL (s.data.toList.take k)).toArray⟩ ∧ Below w.heap.size w wr)
    (fun _ i _ => s.size - (intOf i).toNat)
  case atStart => exact ⟨0, by omega, rfl, rfl, Below.refl _ _⟩
  case round =>
    obtain ⟨k, hk, rfl, rfl, hb⟩ := hrel
    by_cases hlt : k < s.size
    · have hsk := byte_at s k hlt
      have hst : hexL (s.data.toList.take k) ++ [hxd (s[k].toNat / 16), hxd (s[k].toNat % 16)] = hexL (s.data.toList.take (k + 1)) := hexL_step s.data.toList k hlt
      have hln : (hexL (s.data.toList.take k)).length ≤ 200000 := by
        have e : ∀ l : List UInt8, (hexL l).length = 2 * l.length := by
          intro l
          induction l with
          | nil => rfl
          | cons a r ih => unfold hexL at *; simp [List.flatMap_cons, ih]; omega
        rw [e, List.length_take]; omega
      generalize s[k] = c at hsk hst
      have hc := c.toNat_lt
      have hq1 : (c.toNat + 256) / 16 % 16 = c.toNat / 16 := by omega
      have hq2 : (c.toNat + 256) % 16 = c.toNat % 16 := by omega
      have HST := hide hst
      have hDr := hD.below hb h3
      have hfm := hide (fmt_any (c.toNat + 256) wr (by omega) (by omega) hDr)
      rw [hq1, hq2] at hfm
      clear hst hq1 hq2 hDr
      generalize hexL (s.data.toList.take k) = t at HST hln ⊢
      go_wp2_with fail
      rw [show ((c.toNat : Int) + 256) = ((c.toNat + 256 : Nat) : Int) from by omega]
      refine hfm.out.mono ?_
      rintro e w1 ⟨rfl, hb1⟩
      go_wp2
      go_roundw
      case rel => exact ⟨k + 1, by omega, by go_num, by rw [← HST.out]; exact str_two t _ _ _, hb.trans (hb1.mono hb.size)⟩
      case measure => simp [intOf]; omega
    · obtain rfl : k = s.size := by omega
      have e : s.data.toList.take s.size = s.data.toList := List.take_of_length_le (Nat.le_refl _)
      rw [e]
      go_wp2
      go_ret
      exact ⟨rfl, hb⟩
end Go.Proofs.YtlonhknccdijlaaDoor
