/- A number's eight bytes: what the program's own 'appendNum' and 'Num' come to, and the document's. -/
import Derived.Test.YtdoakaadpfheaaaDoorBase
import Derived.Test.YtdoakaadpfheaaaDoorBytes
import Derived.Test.YtdoakaadpfheaaaDoorTurns
namespace Go.Proofs.YtdoakaadpfheaaaDoor
open Go.RowKit
/-- The k-th byte of a number, the greatest first. -/
def numB (x k : Nat) : UInt8 := UInt8.ofNat (x / 2 ^ (56 - 8 * k))
def num8 (x : Nat) : List UInt8 := (List.range 8).map (numB x)
theorem num8_len (x : Nat) : (num8 x).length = 8 := by simp [num8]
theorem numB_val (x k : Nat) : ((numB x k).toNat : Int) = (x : Int) / 2 ^ (56 - 8 * k) % 256 := by
  unfold numB
  rw [UInt8.toNat_ofNat']
  simp
theorem num8_step (l : List UInt8) (x k : Nat) (h : k < 8) : bytesV (l ++ (num8 x).take k) ++ [Value.int .u8 ((x : Int) / 2 ^ (56 - 8 * k) % 256)] = bytesV (l ++ (num8 x).take (k + 1)) := by
  have e : (num8 x).take (k + 1) = (num8 x).take k ++ [numB x k] := by
    rw [List.take_succ_eq_append_getElem (by rw [num8_len]; exact h)]
    simp [num8]
  rw [e, ← List.append_assoc, bytesV_app]
  simp [bytesV, numB_val]
set_option maxRecDepth 100000 in
set_option maxHeartbeats 400000 in
theorem appendNum_any (base : Nat) (v : Value) (n : Nat) (l : List UInt8) (x : Nat) (w : World) (_hx : x < 18446744073709551616) (hv : BRn w base 5 v n (bytesV l)) (hn : n ≤ 900000) (hbase : base ≤ w.heap.size) :
    Calls Tryd.prog 52 #[v, .int .u64 x] w fun e w' => ∃ g cap, e = .returned (.slice (some ⟨g, 0, none⟩) (n + 8) cap) ∧ BR w' base 5 g (n + 8) cap (bytesV (l ++ num8 x)) ∧ Below base w w' := by
  obtain ⟨i5, hE⟩ := elemB
  go_enter Tryd.func52, Tryd.ntmps52
  go_wp2
  go_loopw [0, 6] (fun t i wr => ∃ k : Nat, k ≤ 8 ∧ i = .int .i64 k ∧ BRn wr base 5 t (n + k) (bytesV (l ++ (num8 x).take k)) ∧ Below base w wr ∧ base ≤ wr.heap.size)
    (fun _ i _ => 8 - (intOf i).toNat)
  case atStart => exact ⟨0, by omega, rfl, by simpa using hv, Below.refl _ _, hbase⟩
  case round =>
    obtain ⟨k, hk, rfl, hr, hb, hbs⟩ := hrel
    by_cases hlt : k < 8
    · go_wp2_with (at_builtin; refine append_br 5 hE base _ (n + k) (bytesV (l ++ (num8 x).take k)) ⟨wr.heap.size, 0, none⟩ 1 1 [.int .u8 ((x : Int) / 2 ^ (56 - 8 * k) % 256)] rfl rfl (hr.alloc _) rfl (by omega) (news_one _ _) (one_u8 _) (by omega) (by simp; omega) ?_; intro g cap w' hb' hg hl hbel; rw [num8_step l x k hlt] at hb')
      go_roundw
      case rel => exact ⟨k + 1, by omega, by go_num, BRn.of hb', (hb.alloc hbs _).trans hbel, by have := hb'.lt; have := hb'.base; omega⟩
      case measure => simp [intOf]; omega
    · obtain rfl : k = 8 := by omega
      have e8 : (num8 x).take 8 = num8 x := List.take_of_length_le (by rw [num8_len]; omega)
      rw [e8] at hr
      rcases hr with ⟨_, h0, _⟩ | ⟨g, cap, hv', hr⟩
      · omega
      · go_wp2
        go_ret
        exact ⟨g, cap, ret_val hv', hr, hb⟩
/-- A number's 64 bits. -/
def u64of (n : Int) : Nat := (n % 18446744073709551616).toNat
theorem u64of_lt (n : Int) : u64of n < 18446744073709551616 := by unfold u64of; omega
theorem u64of_wrap (n : Int) : IntKind.u64.wrap n = ((u64of n : Nat) : Int) := by
  rw [IntKind.wrap_u64]; unfold u64of; omega
theorem u64of_nat (n : Nat) (h : n < 18446744073709551616) : u64of (n : Int) = n := by unfold u64of; omega
set_option maxRecDepth 100000 in
set_option maxHeartbeats 400000 in
theorem num_any (n : Int) (w : World) :
    Calls Tryd.prog 15 #[.int .i64 n] w fun e w' => e = .returned (.string ⟨(num8 (u64of n)).toArray⟩) ∧ Below w.heap.size w w' := by
  have hw := u64of_wrap n
  have hlt := u64of_lt n
  go_enter Tryd.func15, Tryd.ntmps15
  go_wp2_with fail
  refine (appendNum_any w.heap.size _ 0 [] (u64of n) w hlt (BRn.nil _ _ _) (by omega) (Nat.le_refl _)).mono ?_
  rintro e w1 ⟨g, cap, rfl, hr, hb⟩
  go_wp2_with ((with_reducible refine conv_out g (0 + 8) cap (num8 (u64of n)) ?_ hr ?_); rfl)
  go_ret
  exact ⟨rfl, hb⟩
/-- The bytes behind k divisions. -/
def numT (x k : Nat) : List UInt8 := (num8 x).drop (8 - k)
theorem numT_len (x k : Nat) : (numT x k).length ≤ 8 := by simp [numT, num8]
theorem numT_step (x k : Nat) (h : k < 8) : UInt8.ofNat (x / 256 ^ k) :: numT x k = numT x (k + 1) := by
  unfold numT
  rw [List.drop_eq_getElem_cons (i := 8 - (k + 1)) (by rw [num8_len]; omega)]
  have e : 8 - (k + 1) + 1 = 8 - k := by omega
  rw [e]
  congr 1
  simp only [num8, List.getElem_map, List.getElem_range, numB]
  have e2 : 56 - 8 * (8 - (k + 1)) = 8 * k := by omega
  rw [e2, Nat.pow_mul]
theorem numT_full (x : Nat) : numT x 8 = num8 x := rfl
set_option maxRecDepth 100000 in
set_option maxHeartbeats 400000 in
theorem refNum_any (n : Int) (w : World) :
    Calls Tryd.prog 16 #[.int .i64 n] w fun e w' => e = .returned (.string ⟨(num8 (u64of n)).toArray⟩) ∧ Below w.heap.size w w' := by
  have hw := u64of_wrap n
  have hnlt := u64of_lt n
  go_enter Tryd.func16, Tryd.ntmps16
  go_wp2
  go_loopw [3, 4, 7] (fun t u i wr => ∃ k : Nat, k ≤ 8 ∧ i = .int .i64 k ∧ u = .int .u64 ((u64of n / 256 ^ k : Nat) : Int) ∧ t = .string ⟨(numT (u64of n) k).toArray⟩ ∧ Below w.heap.size w wr)
    (fun _ _ i _ => 8 - (intOf i).toNat)
  case atStart => exact ⟨0, by omega, rfl, by simp, by simp [numT, num8], Below.refl _ _⟩
  case round =>
    obtain ⟨k, hk, rfl, rfl, rfl, hb⟩ := hrel
    by_cases hlt : k < 8
    · have hstep := hide (numT_step (u64of n) k hlt)
      have hlen := numT_len (u64of n) k
      have hu : u64of n / 256 ^ k < 18446744073709551616 := Nat.lt_of_le_of_lt (Nat.div_le_self _ _) hnlt
      have hdiv := hide (show u64of n / 256 ^ (k + 1) = u64of n / 256 ^ k / 256 by rw [Nat.pow_succ, Nat.div_div_eq_div_mul])
      generalize u64of n / 256 ^ k = u at hstep hu hdiv ⊢
      generalize numT (u64of n) k = t at hstep hlen ⊢
      go_wp2_with ((with_reducible refine conv_out wr.heap.size 1 1 [UInt8.ofNat u] ?_ (br_one wr u) ?_); rfl)
      go_roundw
      case rel => exact ⟨k + 1, by omega, by go_num, by rw [hdiv.out]; simp, by rw [← hstep.out, bytes_app]; simp, hb.alloc (by have := hb.size; omega) _⟩
      case measure => simp [intOf]; omega
    · obtain rfl : k = 8 := by omega
      go_wp2
      go_ret
      exact ⟨rfl, hb⟩
end Go.Proofs.YtdoakaadpfheaaaDoor
