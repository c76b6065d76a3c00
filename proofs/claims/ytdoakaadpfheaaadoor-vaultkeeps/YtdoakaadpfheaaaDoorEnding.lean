/- What is left of a text, filled up to whole blocks: what the program's own 'ending' comes to. -/
import Derived.Test.YtdoakaadpfheaaaDoorNum
namespace Go.Proofs.YtdoakaadpfheaaaDoor
open Go.RowKit
/-- How many noughts fill a text up. -/
def padZ (n : Nat) : Nat := (119 - n % 64) % 64
/-- A text with what fills it up; x: the size in bits that is told. -/
def pad (l : List UInt8) (x : Nat) : List UInt8 := l ++ 128 :: (List.replicate (padZ l.length) 0 ++ num8 x)
def slen : Value → Nat
  | .slice _ n _ => n
  | _ => 0
theorem padZ_stop (n z : Nat) (h : z < padZ n) : (n + 1 + z) % 64 ≠ 56 := by unfold padZ at h; omega
theorem padZ_end (n : Nat) : (n + 1 + padZ n) % 64 = 56 := by unfold padZ; omega
theorem padZ_le (n : Nat) : padZ n ≤ 63 := by unfold padZ; omega
theorem bytes_snoc0 (l : List UInt8) (z : Nat) : bytesV (l ++ 128 :: List.replicate z 0) ++ [Value.int .u8 0] = bytesV (l ++ 128 :: List.replicate (z + 1) 0) := by
  rw [List.replicate_succ']
  simp [bytesV]
theorem bytes_snoc80 (l : List UInt8) : bytesV l ++ [Value.int .u8 128] = bytesV (l ++ 128 :: List.replicate 0 0) := by
  simp [bytesV]
set_option maxRecDepth 100000 in
set_option maxHeartbeats 400000 in
theorem ending_any (s : ByteArray) (x : Nat) (w : World) (hs : s.size ≤ 800000) (hx : x ≤ 1000000) :
    Calls Tryd.prog 49 #[.string s, .int .u64 x] w fun e w' => e = .returned (.string ⟨(pad s.data.toList (8 * x)).toArray⟩) ∧ Below w.heap.size w w' := by
  obtain ⟨i5, hE⟩ := elemB
  have hpz := padZ_le s.size
  go_enter Tryd.func49, Tryd.ntmps49
  go_wp2_with (first
    | ((with_reducible refine conv_in s ?_ ?_); rfl; intro cap w1 hr1 hg1 hz1)
    | (at_builtin; refine append_br 5 hE w.heap.size _ s.size (bytesV s.data.toList) ⟨w.heap.size + 1, 0, none⟩ 1 1 [.int .u8 128] rfl rfl (BRn.of (hr1.alloc _)) rfl (by omega) (news_blk (HasR.new' hz1 5 #[.int .u8 128])) (one_u8 _) (by omega) (by simp; omega) ?_; intro g cap w2 hr2 hg2 hl2 hb2; rw [bytes_snoc80] at hr2))
  have hB2 : Below w.heap.size w w2 := (((Below.refl _ w).grown hg1 (Nat.le_refl _) (by intro k hk; simp at hk)).alloc (by omega) _).trans hb2
  have hsz2 : w.heap.size ≤ w2.heap.size := hB2.size
  clear hr1 hg1 hg2 hl2 hb2
  go_loopw [5] (fun t wr => ∃ z g cap, z ≤ padZ s.size ∧ t = .slice (some ⟨g, 0, none⟩) (s.size + 1 + z) cap ∧ BR wr w.heap.size 5 g (s.size + 1 + z) cap (bytesV (s.data.toList ++ 128 :: List.replicate z 0)) ∧ Below w.heap.size w wr)
    (fun t _ => s.size + 100 - slen t)
  case atStart => exact ⟨0, g, cap, by omega, rfl, hr2, hB2⟩
  case round =>
    obtain ⟨z, g, cap, hz, rfl, hr, hb⟩ := hrel
    have hbs := hb.size
    by_cases hlt : z < padZ s.size
    · have hne := padZ_stop s.size z hlt
      go_wp2_with (at_builtin; refine append_br 5 hE w.heap.size _ (s.size + 1 + z) (bytesV (s.data.toList ++ 128 :: List.replicate z 0)) ⟨wr.heap.size, 0, none⟩ 1 1 [.int .u8 0] rfl rfl ((BRn.of hr).alloc _) rfl (by omega) (news_one _ _) (one_u8 _) (by omega) (by simp; omega) ?_; intro g cap w' hb' hg hl hbel; rw [bytes_snoc0] at hb')
      go_roundw
      case rel => exact ⟨z + 1, _, _, by omega, rfl, hb', (hb.alloc hbs _).trans hbel⟩
      case measure => simp [slen]; omega
    · obtain rfl : z = padZ s.size := by omega
      have hend := padZ_end s.size
      go_wp2_with fail
      rw [show (8 * (x : Int)) = ((8 * x : Nat) : Int) from by omega]
      refine (appendNum_any w.heap.size _ (s.size + 1 + padZ s.size) (s.data.toList ++ 128 :: List.replicate (padZ s.size) 0) (8 * x) wr (by omega) (BRn.of hr) (by omega) hbs).mono ?_
      rintro e w3 ⟨g3, cap3, rfl, hr3, hb3⟩
      go_wp2_with ((with_reducible refine conv_out g3 (s.size + 1 + padZ s.size + 8) cap3 (s.data.toList ++ 128 :: List.replicate (padZ s.size) 0 ++ num8 (8 * x)) ?_ hr3 ?_); rfl)
      go_ret
      exact ⟨ret_val (by show Value.string ⟨(s.data.toList ++ 128 :: (List.replicate (padZ s.size) 0 ++ num8 (8 * x))).toArray⟩ = _; rfl), hb.trans hb3⟩
end Go.Proofs.YtdoakaadpfheaaaDoor
