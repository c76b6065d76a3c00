/- A block that is known: what the law's own look at it comes to. -/
import Derived.Test.YteiakfhlklhabaaHex
import Derived.Lib.Strings
namespace Go.Proofs.Yteiakfhlklhabaa
open Go.RowKit
attribute [local go_sem ↓] Go.wp_at_zero Go.wp_at_succ
theorem bytes_app (a b : Array UInt8) : (⟨a⟩ : ByteArray) ++ ⟨b⟩ = ⟨a ++ b⟩ := by
  apply ByteArray.ext
  rw [ByteArray.data_append]
/-- The bytes from nought on. -/
def cnt (k : Nat) : List UInt8 := (List.range k).map UInt8.ofNat
theorem cnt_len (k : Nat) : (cnt k).length = k := by simp [cnt]
theorem cnt_succ (k : Nat) : cnt (k + 1) = cnt k ++ [UInt8.ofNat k] := by simp [cnt, List.range_succ]
theorem br_low (w : World) (u : Nat) (h : u < 256) : BR (w.alloc (.cells #[.int .u8 (u : Int)] 5)) w.heap.size 5 w.heap.size 1 1 (bytesV [UInt8.ofNat u]) :=
  ⟨rfl, Nat.le_refl _, Nat.le_refl _, _, _, heap_alloc_new w _, rfl, by simp [bytesV]; omega, .inl (Nat.le_refl _)⟩
/-- The nonce of the block that is known. -/
def nonceK : ByteArray := ⟨#[0, 0, 0, 9, 0, 0, 0, 74, 0, 0, 0, 0]⟩
theorem known_head : hexL ((blockL (cnt 32) (BitVec.ofNat 32 1) nonceK.data.toList).take 16) = [49, 48, 102, 49, 101, 55, 101, 52, 100, 49, 51, 98, 53, 57, 49, 53, 53, 48, 48, 102, 100, 100, 49, 102, 97, 51, 50, 48, 55, 49, 99, 52] := by decide +kernel
theorem known_tail : hexL ((blockL (cnt 32) (BitVec.ofNat 32 1) nonceK.data.toList).drop 60) = [97, 50, 53, 48, 51, 99, 52, 101] := by decide +kernel
theorem ext_take (O : List UInt8) (n : Nat) : ((⟨O.toArray⟩ : ByteArray).extract 0 n).data.toList = O.take n := by
  rw [Lib.extract_data]
  simp
theorem ext_drop (O : List UInt8) (n m : Nat) (h : O.length = m) : ((⟨O.toArray⟩ : ByteArray).extract n m).data.toList = O.drop n := by
  rw [Lib.extract_data]
  exact List.take_of_length_le (by rw [List.length_drop]; show O.length - n ≤ m - n; omega)
set_option maxRecDepth 100000 in
set_option maxHeartbeats 1000000 in
theorem streamed_any (w : World) : Calls Try.prog 4 #[] w fun e w' => e = .returned (.bool true) ∧ Below w.heap.size w w' := by
  have hkn := known_head
  have hkt := known_tail
  have lO := blockL_len (cnt 32) (BitVec.ofNat 32 1) nonceK.data.toList
  have hkey : (⟨(cnt 32).toArray⟩ : ByteArray).data.toList = cnt 32 := by simp
  have q : ∀ wx, Calls Try.prog 7 #[.string ⟨(cnt 32).toArray⟩, .int .i64 1, .string ⟨#[0, 0, 0, 9, 0, 0, 0, 74, 0, 0, 0, 0]⟩] wx fun e w' => e = .returned (.tuple #[.string ⟨(blockL (⟨(cnt 32).toArray⟩ : ByteArray).data.toList (BitVec.ofNat 32 1) nonceK.data.toList).toArray⟩, .nilIface]) ∧ Below wx.heap.size wx w' := fun wx => block_ok ⟨(cnt 32).toArray⟩ nonceK 1 wx (by show (cnt 32).length = 32; exact cnt_len 32) rfl (by omega)
  rw [hkey] at q
  generalize blockL (cnt 32) (BitVec.ofNat 32 1) nonceK.data.toList = O at hkn hkt lO q
  have q1 := fun wx => hex_any ((⟨O.toArray⟩ : ByteArray).extract 0 16) wx (by rw [ByteArray.size_extract]; show min 16 O.length - 0 ≤ 100000; omega)
  have q2 := fun wx => hex_any ((⟨O.toArray⟩ : ByteArray).extract 60 64) wx (by rw [ByteArray.size_extract]; omega)
  rw [ext_take O 16, hkn] at q1
  rw [ext_drop O 60 64 lO, hkt] at q2
  have hsz : (⟨O.toArray⟩ : ByteArray).size = 64 := lO
  generalize (⟨O.toArray⟩ : ByteArray) = OO at q q1 q2 hsz
  have hcs : Hid (∀ k, cnt (k + 1) = cnt k ++ [UInt8.ofNat k]) := hide cnt_succ
  have HQ := hide q
  have HQ1 := hide q1
  have HQ2 := hide q2
  clear q q1 q2 hkn hkt hkey
  go_enter Try.func4, Try.ntmps4
  go_wp2
  go_loopw [1, 5] (fun t i wr => ∃ k : Nat, k ≤ 32 ∧ i = .int .i64 k ∧ t = .string ⟨(cnt k).toArray⟩ ∧ Below w.heap.size w wr)
    (fun _ i _ => 32 - (intOf i).toNat)
  case atStart => exact ⟨0, by omega, rfl, rfl, Below.refl _ _⟩
  case round =>
    obtain ⟨k, hk, rfl, rfl, hb⟩ := hrel
    have hbs := hb.size
    by_cases hlt : k < 32
    · have hk256 : k < 256 := by omega
      have hst : Value.string ((⟨(cnt k).toArray⟩ : ByteArray) ++ ⟨[UInt8.ofNat k].toArray⟩) = .string ⟨(cnt (k + 1)).toArray⟩ := by
        rw [hcs.out k, bytes_app]; simp
      have hl : (⟨(cnt k).toArray⟩ : ByteArray).size = k := cnt_len k
      generalize (⟨(cnt k).toArray⟩ : ByteArray) = K at hst hl ⊢
      have HST := hide hst
      clear hst
      go_wp2_with ((with_reducible refine conv_out wr.heap.size 1 1 [UInt8.ofNat k] ?_ (br_low wr k hk256) ?_); rfl)
      go_roundw
      case rel => exact ⟨k + 1, by omega, by go_num, by rw [← HST.out], hb.alloc hbs _⟩
      case measure => simp [intOf]; omega
    · obtain rfl : k = 32 := by omega
      generalize (⟨(cnt 32).toArray⟩ : ByteArray) = K at HQ ⊢
      clear hcs
      go_wp2_with (first
        | (go_at_call 7; (with_reducible refine (HQ.out _).mono ?_); rintro e w1 ⟨rfl, hb1⟩)
        | (go_at_call 8; (with_reducible refine (HQ1.out _).mono ?_); rintro e w2 ⟨rfl, hb2⟩)
        | (go_at_call 8; (with_reducible refine (HQ2.out _).mono ?_); rintro e w3 ⟨rfl, hb3⟩))
      go_ret
      exact ⟨rfl, hb.trans ((hb1.mono hbs).trans ((hb2.mono (by have := hb1.size; omega)).trans (hb3.mono (by have := hb1.size; have := hb2.size; omega))))⟩
end Go.Proofs.Yteiakfhlklhabaa
