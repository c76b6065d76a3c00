/- Texts of this proof, one behind the other. -/
import Derived.Deep.RegionHeld3
import Derived.Deep.DrawnRows
import Derived.Test.YtjobghphjkeohaaDoorPart13
/- The document's turning of a word to the right, at the counts that it is called with. -/
namespace Go.Proofs.YtjobghphjkeohaaDoor
open Go.RowKit
set_option maxHeartbeats 400000 in
theorem rot_2 (x : BitVec 32) (w : World) :
    Calls Tryd.prog 48 #[.int .u32 (N x), .int .i64 2] w fun e w' => e = .returned (.int .u32 (N (rr x 2))) ∧ ∃ n, w' = w.drewN n := by
  have r0 : (N x * (1073741824 : Int) % (4294967296 : Int)) = N (x <<< 30) := N_shlm x 30
  have r1 : (N x / (4 : Int)) = N (x >>> 2) := N_shr x 2
  have r2 := N_addm (x >>> 2) (x <<< 30)
  go_enter Tryd.func48, Tryd.ntmps48
  go_wp2
  go_quiet (fail)
  go_wp2
  go_ret
  exact ⟨ret_val (by show Value.int .u32 ((N (x >>> 2) + N (x <<< 30)) % (4294967296 : Int)) = _; rw [r2, rr_add x 2 (by omega)]), _, rfl⟩

set_option maxHeartbeats 400000 in
theorem rot_6 (x : BitVec 32) (w : World) :
    Calls Tryd.prog 48 #[.int .u32 (N x), .int .i64 6] w fun e w' => e = .returned (.int .u32 (N (rr x 6))) ∧ ∃ n, w' = w.drewN n := by
  have r0 : (N x * (67108864 : Int) % (4294967296 : Int)) = N (x <<< 26) := N_shlm x 26
  have r1 : (N x / (64 : Int)) = N (x >>> 6) := N_shr x 6
  have r2 := N_addm (x >>> 6) (x <<< 26)
  go_enter Tryd.func48, Tryd.ntmps48
  go_wp2
  go_quiet (fail)
  go_wp2
  go_ret
  exact ⟨ret_val (by show Value.int .u32 ((N (x >>> 6) + N (x <<< 26)) % (4294967296 : Int)) = _; rw [r2, rr_add x 6 (by omega)]), _, rfl⟩

set_option maxHeartbeats 400000 in
theorem rot_7 (x : BitVec 32) (w : World) :
    Calls Tryd.prog 48 #[.int .u32 (N x), .int .i64 7] w fun e w' => e = .returned (.int .u32 (N (rr x 7))) ∧ ∃ n, w' = w.drewN n := by
  have r0 : (N x * (33554432 : Int) % (4294967296 : Int)) = N (x <<< 25) := N_shlm x 25
  have r1 : (N x / (128 : Int)) = N (x >>> 7) := N_shr x 7
  have r2 := N_addm (x >>> 7) (x <<< 25)
  go_enter Tryd.func48, Tryd.ntmps48
  go_wp2
  go_quiet (fail)
  go_wp2
  go_ret
  exact ⟨ret_val (by show Value.int .u32 ((N (x >>> 7) + N (x <<< 25)) % (4294967296 : Int)) = _; rw [r2, rr_add x 7 (by omega)]), _, rfl⟩

set_option maxHeartbeats 400000 in
theorem rot_11 (x : BitVec 32) (w : World) :
    Calls Tryd.prog 48 #[.int .u32 (N x), .int .i64 11] w fun e w' => e = .returned (.int .u32 (N (rr x 11))) ∧ ∃ n, w' = w.drewN n := by
  have r0 : (N x * (2097152 : Int) % (4294967296 : Int)) = N (x <<< 21) := N_shlm x 21
  have r1 : (N x / (2048 : Int)) = N (x >>> 11) := N_shr x 11
  have r2 := N_addm (x >>> 11) (x <<< 21)
  go_enter Tryd.func48, Tryd.ntmps48
  go_wp2
  go_quiet (fail)
  go_wp2
  go_ret
  exact ⟨ret_val (by show Value.int .u32 ((N (x >>> 11) + N (x <<< 21)) % (4294967296 : Int)) = _; rw [r2, rr_add x 11 (by omega)]), _, rfl⟩

set_option maxHeartbeats 400000 in
theorem rot_13 (x : BitVec 32) (w : World) :
    Calls Tryd.prog 48 #[.int .u32 (N x), .int .i64 13] w fun e w' => e = .returned (.int .u32 (N (rr x 13))) ∧ ∃ n, w' = w.drewN n := by
  have r0 : (N x * (524288 : Int) % (4294967296 : Int)) = N (x <<< 19) := N_shlm x 19
  have r1 : (N x / (8192 : Int)) = N (x >>> 13) := N_shr x 13
  have r2 := N_addm (x >>> 13) (x <<< 19)
  go_enter Tryd.func48, Tryd.ntmps48
  go_wp2
  go_quiet (fail)
  go_wp2
  go_ret
  exact ⟨ret_val (by show Value.int .u32 ((N (x >>> 13) + N (x <<< 19)) % (4294967296 : Int)) = _; rw [r2, rr_add x 13 (by omega)]), _, rfl⟩

set_option maxHeartbeats 400000 in
theorem rot_17 (x : BitVec 32) (w : World) :
    Calls Tryd.prog 48 #[.int .u32 (N x), .int .i64 17] w fun e w' => e = .returned (.int .u32 (N (rr x 17))) ∧ ∃ n, w' = w.drewN n := by
  have r0 : (N x * (32768 : Int) % (4294967296 : Int)) = N (x <<< 15) := N_shlm x 15
  have r1 : (N x / (131072 : Int)) = N (x >>> 17) := N_shr x 17
  have r2 := N_addm (x >>> 17) (x <<< 15)
  go_enter Tryd.func48, Tryd.ntmps48
  go_wp2
  go_quiet (fail)
  go_wp2
  go_ret
  exact ⟨ret_val (by show Value.int .u32 ((N (x >>> 17) + N (x <<< 15)) % (4294967296 : Int)) = _; rw [r2, rr_add x 17 (by omega)]), _, rfl⟩

set_option maxHeartbeats 400000 in
theorem rot_18 (x : BitVec 32) (w : World) :
    Calls Tryd.prog 48 #[.int .u32 (N x), .int .i64 18] w fun e w' => e = .returned (.int .u32 (N (rr x 18))) ∧ ∃ n, w' = w.drewN n := by
  have r0 : (N x * (16384 : Int) % (4294967296 : Int)) = N (x <<< 14) := N_shlm x 14
  have r1 : (N x / (262144 : Int)) = N (x >>> 18) := N_shr x 18
  have r2 := N_addm (x >>> 18) (x <<< 14)
  go_enter Tryd.func48, Tryd.ntmps48
  go_wp2
  go_quiet (fail)
  go_wp2
  go_ret
  exact ⟨ret_val (by show Value.int .u32 ((N (x >>> 18) + N (x <<< 14)) % (4294967296 : Int)) = _; rw [r2, rr_add x 18 (by omega)]), _, rfl⟩

set_option maxHeartbeats 400000 in
theorem rot_19 (x : BitVec 32) (w : World) :
    Calls Tryd.prog 48 #[.int .u32 (N x), .int .i64 19] w fun e w' => e = .returned (.int .u32 (N (rr x 19))) ∧ ∃ n, w' = w.drewN n := by
  have r0 : (N x * (8192 : Int) % (4294967296 : Int)) = N (x <<< 13) := N_shlm x 13
  have r1 : (N x / (524288 : Int)) = N (x >>> 19) := N_shr x 19
  have r2 := N_addm (x >>> 19) (x <<< 13)
  go_enter Tryd.func48, Tryd.ntmps48
  go_wp2
  go_quiet (fail)
  go_wp2
  go_ret
  exact ⟨ret_val (by show Value.int .u32 ((N (x >>> 19) + N (x <<< 13)) % (4294967296 : Int)) = _; rw [r2, rr_add x 19 (by omega)]), _, rfl⟩

set_option maxHeartbeats 400000 in
theorem rot_22 (x : BitVec 32) (w : World) :
    Calls Tryd.prog 48 #[.int .u32 (N x), .int .i64 22] w fun e w' => e = .returned (.int .u32 (N (rr x 22))) ∧ ∃ n, w' = w.drewN n := by
  have r0 : (N x * (1024 : Int) % (4294967296 : Int)) = N (x <<< 10) := N_shlm x 10
  have r1 : (N x / (4194304 : Int)) = N (x >>> 22) := N_shr x 22
  have r2 := N_addm (x >>> 22) (x <<< 10)
  go_enter Tryd.func48, Tryd.ntmps48
  go_wp2
  go_quiet (fail)
  go_wp2
  go_ret
  exact ⟨ret_val (by show Value.int .u32 ((N (x >>> 22) + N (x <<< 10)) % (4294967296 : Int)) = _; rw [r2, rr_add x 22 (by omega)]), _, rfl⟩

set_option maxHeartbeats 400000 in
theorem rot_25 (x : BitVec 32) (w : World) :
    Calls Tryd.prog 48 #[.int .u32 (N x), .int .i64 25] w fun e w' => e = .returned (.int .u32 (N (rr x 25))) ∧ ∃ n, w' = w.drewN n := by
  have r0 : (N x * (128 : Int) % (4294967296 : Int)) = N (x <<< 7) := N_shlm x 7
  have r1 : (N x / (33554432 : Int)) = N (x >>> 25) := N_shr x 25
  have r2 := N_addm (x >>> 25) (x <<< 7)
  go_enter Tryd.func48, Tryd.ntmps48
  go_wp2
  go_quiet (fail)
  go_wp2
  go_ret
  exact ⟨ret_val (by show Value.int .u32 ((N (x >>> 25) + N (x <<< 7)) % (4294967296 : Int)) = _; rw [r2, rr_add x 25 (by omega)]), _, rfl⟩

theorem rot_any (x : BitVec 32) (k : Int) (w : World) (h : turns k = true) :
    Calls Tryd.prog 48 #[.int .u32 (N x), .int .i64 k] w fun e w' => e = .returned (.int .u32 (N (rr x k.toNat))) ∧ ∃ n, w' = w.drewN n := by
  rcases turns_cases h with rfl | rfl | rfl | rfl | rfl | rfl | rfl | rfl | rfl | rfl
  · exact rot_2 x w
  · exact rot_6 x w
  · exact rot_7 x w
  · exact rot_11 x w
  · exact rot_13 x w
  · exact rot_17 x w
  · exact rot_18 x w
  · exact rot_19 x w
  · exact rot_22 x w
  · exact rot_25 x w
end Go.Proofs.YtjobghphjkeohaaDoor

/- The document's sum of a text comes to the same bytes. -/
namespace Go.Proofs.YtjobghphjkeohaaDoor
open Go.RowKit
attribute [local go_sem] N_xor N_and N_or N_add N_addm N_add3 N_add4 N_add5 N_add12 N_add13 N_not N_byte N_shl8 N_shr3 N_shr10
attribute [local go_sem ↓] Go.wp_at_zero Go.wp_at_succ
/-- The document's numbers lie where they were reckoned. -/
def RefR (w : World) (b : Nat) : Prop :=
  (∀ i, i < 8 → w.cell? ⟨b, i, none⟩ = some (.int .u32 (N (wd st0.l i)))) ∧ ∀ i, i < 64 → w.cell? ⟨b, 8 + i, none⟩ = some (.int .u32 (N (wd kTab i)))
theorem RefR.lt {w : World} {b : Nat} (h : RefR w b) : b < w.heap.size := block_lt_of_cell (h.1 0 (by omega))
theorem RefR.below {w w' : World} {b B : Nat} (h : RefR w b) (hb : Below B w w') (hB : b < B) : RefR w' b :=
  ⟨fun i hi => by rw [hb.cell (p := ⟨b, i, none⟩) hB]; exact h.1 i hi, fun i hi => by rw [hb.cell (p := ⟨b, 8 + i, none⟩) hB]; exact h.2 i hi⟩
theorem RefR.eight {w : World} {b : Nat} (h : RefR w b) : w.cell? ⟨b, 0, none⟩ = some (.int .u32 (N st0.a)) ∧ w.cell? ⟨b, 1, none⟩ = some (.int .u32 (N st0.b)) ∧ w.cell? ⟨b, 2, none⟩ = some (.int .u32 (N st0.c)) ∧ w.cell? ⟨b, 3, none⟩ = some (.int .u32 (N st0.d)) ∧ w.cell? ⟨b, 4, none⟩ = some (.int .u32 (N st0.e)) ∧ w.cell? ⟨b, 5, none⟩ = some (.int .u32 (N st0.f)) ∧ w.cell? ⟨b, 6, none⟩ = some (.int .u32 (N st0.g)) ∧ w.cell? ⟨b, 7, none⟩ = some (.int .u32 (N st0.h)) :=
  ⟨h.1 0 (by omega), h.1 1 (by omega), h.1 2 (by omega), h.1 3 (by omega), h.1 4 (by omega), h.1 5 (by omega), h.1 6 (by omega), h.1 7 (by omega)⟩
theorem wd_set_self (l : List (BitVec 32)) (i : Nat) (h : i < l.length) : l.set i (wd l i) = l := by
  unfold wd
  rw [List.getD_eq_getElem?_getD, List.getElem?_eq_getElem h]
  exact List.set_getElem_self h
theorem br_byte {wx : World} {base g n cap : Nat} {PL : List UInt8} (h : BR wx base 5 g n cap (bytesV PL)) (i : Nat) (hi : i < n) : wx.cell? ⟨g, i, none⟩ = some (.int .u8 ((PL.getD i 0).toNat : Int)) := by
  have hl : PL.length = n := by rw [← bytesV_len, h.len]
  rw [h.cell i hi]
  simp [bytesV, List.getElem?_eq_getElem (show i < PL.length by omega)]
theorem partW_step (p q r s : UInt8) (k : Nat) (h : k < 4) (c : UInt8) (hc : c = [p, q, r, s].getD k 0) : partW p q r s k <<< 8 + bw c = partW p q r s (k + 1) := by
  subst hc
  match k, h with
  | 0, _ => rfl
  | 1, _ => rfl
  | 2, _ => rfl
  | 3, _ => rfl
theorem index8' (s : St) (k : Nat) (h : k < 8) (w : World) : (Instr.index 47 (.agg #[.int .u32 (N s.a), .int .u32 (N s.b), .int .u32 (N s.c), .int .u32 (N s.d), .int .u32 (N s.e), .int .u32 (N s.f), .int .u32 (N s.g), .int .u32 (N s.h)]) (.int .i64 (k : Int))).run Tryd.prog w = .ok (.int .u32 (N (wd s.l k))) w := index8 s k h w
theorem br_four (w : World) (x : BitVec 32) : BR (w.alloc (.cells #[.int .u8 (N x / 16777216 % 256), .int .u8 (N x / 65536 % 256), .int .u8 (N x / 256 % 256), .int .u8 (N x % 256)] 5)) w.heap.size 5 w.heap.size 4 4 (bytesV (bytes4 x)) :=
  ⟨rfl, Nat.le_refl _, Nat.le_refl _, _, _, heap_alloc_new w _, rfl, by rw [bytes4_vals]; rfl, .inl (Nat.le_refl _)⟩
theorem stTo_str (s : St) (k : Nat) (h : k < 8) : Value.string ((⟨(stTo s k).toArray⟩ : ByteArray) ++ ⟨(bytes4 (wd s.l k)).toArray⟩) = .string ⟨(stTo s (k + 1)).toArray⟩ := by
  have hl : s.l.length = 8 := rfl
  have e : s.l.take (k + 1) = s.l.take k ++ [wd s.l k] := by
    rw [List.take_succ_eq_append_getElem (by omega)]
    simp [wd, hl, h]
  rw [bytes_app]
  unfold stTo
  rw [e, List.flatMap_append]
  simp
set_option maxRecDepth 100000 in
set_option maxHeartbeats 20000000 in
theorem refSum_any (b : Nat) (s : ByteArray) (hs : s.size ≤ 800000) (w : World) (hR : RefR w b) :
    Calls Tryd.prog 41 #[.pointer (some ⟨b, 0, none⟩), .string s] w fun e w' => e = .returned (.string ⟨(sha s.data.toList).toArray⟩) ∧ Below w.heap.size w w' := by
  obtain ⟨i5, hE⟩ := elemB
  have hbl := hR.lt
  have hpz := padZ_le s.size
  obtain ⟨c0, c1, c2, c3, c4, c5, c6, c7⟩ := hR.eight
  go_enter Tryd.func41, Tryd.ntmps41
  go_wp2_with (first
    | ((with_reducible refine conv_in s ?_ ?_); rfl; intro cap w1 hr1 hg1 hz1; simp only [World.size_alloc] at hr1 hz1)
    | (at_builtin; refine append_br 5 hE (w.heap.size + 1) _ s.size (bytesV s.data.toList) ⟨w.heap.size + 1 + 1, 0, none⟩ 1 1 [.int .u8 128] rfl rfl (BRn.of (hr1.alloc _)) rfl (by omega) (news_blk (HasR.new' hz1 5 #[.int .u8 128])) (one_u8 _) (by omega) (by simp; omega) ?_; intro g cap w2 hr2 hg2 hl2 hb2; rw [bytes_snoc80] at hr2))
  have hH2 : HasW w2 w.heap.size 47 st0.l := HasR.below ((HasR.kept (HasR.new w 47 _) hg1 (by simp)).alloc _) hb2 (by omega)
  have hB2 : Below w.heap.size w w2 := ((((Below.refl _ w).alloc (Nat.le_refl _) _).grown hg1 (by simp) (by intro k hk; simp at hk)).alloc (by omega) _).trans (hb2.mono (by omega))
  have hsz2 : w.heap.size + 1 ≤ w2.heap.size := by have := hr2.lt; have := hr2.base; omega
  clear hr1 hg1 hg2 hl2 hb2 hz1 c0 c1 c2 c3 c4 c5 c6 c7
  go_loopw [7] (fun t wr => ∃ z g cap : Nat, z ≤ padZ s.size ∧ t = .slice (some ⟨g, 0, none⟩) (s.size + 1 + z) cap ∧ BR wr (w.heap.size + 1) 5 g (s.size + 1 + z) cap (bytesV (s.data.toList ++ 128 :: List.replicate z 0)) ∧ HasW wr w.heap.size 47 st0.l ∧ Below w.heap.size w wr)
    (fun t _ => s.size + 100 - slen t)
  case atStart => exact ⟨0, g, cap, by omega, rfl, hr2, hH2, hB2⟩
  case round =>
    clear hr2 hH2 hB2 hsz2
    obtain ⟨z, g, cap, hz, rfl, hr, hH, hb⟩ := hrel
    have hbs : w.heap.size + 1 ≤ wr.heap.size := by have := hr.lt; have := hr.base; omega
    by_cases hlt : z < padZ s.size
    · have hne := padZ_stop s.size z hlt
      go_wp2_with (at_builtin; refine append_br 5 hE (w.heap.size + 1) _ (s.size + 1 + z) (bytesV (s.data.toList ++ 128 :: List.replicate z 0)) ⟨wr.heap.size, 0, none⟩ 1 1 [.int .u8 0] rfl rfl ((BRn.of hr).alloc _) rfl (by omega) (news_one _ _) (one_u8 _) (by omega) (by simp; omega) ?_; intro g cap w' hb' hg hl hbel; rw [bytes_snoc0] at hb')
      go_roundw
      case rel => exact ⟨z + 1, _, _, by omega, rfl, hb', (hH.alloc _).below hbel (by omega), (hb.alloc (by omega) _).trans (hbel.mono (by omega))⟩
      case measure => simp [slen]; omega
    · obtain rfl : z = padZ s.size := by omega
      have hend := padZ_end s.size
      clear hlt hz
      generalize hn : s.size + 1 + padZ s.size = n at hr hend ⊢
      have hn1 : n ≤ 800100 := by omega
      have HN := hide hn
      clear hn
      have hendb : (((n : Int) % 64) != 56) = false := by simp; omega
      have HEND := hide hend
      clear hend
      go_wp2_with fail
      clear hendb
      go_loopw [7, 8] (fun t i wr => ∃ k g cap : Nat, k ≤ 8 ∧ i = .int .i64 (56 - 8 * (k : Int)) ∧ t = .slice (some ⟨g, 0, none⟩) (n + k) cap ∧ BR wr (w.heap.size + 1) 5 g (n + k) cap (bytesV (s.data.toList ++ 128 :: List.replicate (padZ s.size) 0 ++ (num8 (8 * s.size)).take k)) ∧ HasW wr w.heap.size 47 st0.l ∧ Below w.heap.size w wr)
        (fun _ i _ => (intOf i + 8).toNat)
      case atStart => exact ⟨0, g, cap, by omega, by simp, rfl, by simpa using hr, hH, hb⟩
      case round =>
        clear hr hH hb hbs
        obtain ⟨k, g, cap, hk, rfl, rfl, hr, hH, hb⟩ := hrel
        have hbs : w.heap.size + 1 ≤ wr.heap.size := by have := hr.lt; have := hr.base; omega
        by_cases hlt : k < 8
        · have hst := num8_step (s.data.toList ++ 128 :: List.replicate (padZ s.size) 0) (8 * s.size) k hlt
          rw [show ((8 * s.size : Nat) : Int) = (s.size : Int) * 8 from by omega] at hst
          have HST := hide hst
          clear hst
          go_wp2_with (at_builtin; refine append_br 5 hE (w.heap.size + 1) _ (n + k) (bytesV (s.data.toList ++ 128 :: List.replicate (padZ s.size) 0 ++ (num8 (8 * s.size)).take k)) ⟨wr.heap.size, 0, none⟩ 1 1 [.int .u8 ((s.size : Int) * 8 / 2 ^ (56 - 8 * k) % 256)] rfl rfl ((BRn.of hr).alloc _) rfl (by omega) (news_one _ _) (one_u8 _) (by omega) (by simp; omega) ?_; intro g cap w' hb' hg hl hbel; rw [HST.out] at hb')
          go_roundw
          case rel => exact ⟨k + 1, _, _, by omega, by simp; omega, rfl, hb', (hH.alloc _).below hbel (by omega), (hb.alloc (by omega) _).trans (hbel.mono (by omega))⟩
          case measure => simp [intOf]; omega
        · obtain rfl : k = 8 := by omega
          have e8 : (num8 (8 * s.size)).take 8 = num8 (8 * s.size) := List.take_of_length_le (by rw [num8_len]; omega)
          rw [e8] at hr
          have ePL : s.data.toList ++ 128 :: List.replicate (padZ s.size) 0 ++ num8 (8 * s.size) = pad s.data.toList (8 * s.data.toList.length) := by
            unfold pad; simp
          rw [ePL] at hr
          have hfin := hide (show sha s.data.toList = stBytes (mixTo st0 (pad s.data.toList (8 * s.data.toList.length)) ((pad s.data.toList (8 * s.data.toList.length)).length / 64)) from rfl)
          generalize pad s.data.toList (8 * s.data.toList.length) = PL at hr hfin
          have hPl : PL.length = n + 8 := by have := hr.len; rw [bytesV_len] at this; exact this
          have hend := HEND.out
          obtain ⟨M, hM⟩ : ∃ M, n + 8 = 64 * M := ⟨(n + 8) / 64, by omega⟩
          have hM2 : PL.length / 64 = M := by omega
          rw [hM2] at hfin
          rw [hM] at hr
          have hPM : PL.length = 64 * M := by omega
          have hMb : 64 * M ≤ 900000 := by omega
          have HM := hide hM
          clear hM2 hM hPl e8 ePL hlt hend HEND HN hn1 hk
          have hcap := hr.le
          have h56 : (56 - 8 * ((8 : Nat) : Int)) = -8 := by decide
          rw [HM.out, h56]
          clear h56
          go_wp2_with fail
          go_loopw [7] (fun t wr => ∃ j : Nat, ∃ ad : Option Addr, j ≤ M ∧ t = .slice ad (64 * (M - j)) (cap - 64 * j) ∧ (j < M → ad = some ⟨g, 64 * j, none⟩) ∧ BR wr (w.heap.size + 1) 5 g (64 * M) cap (bytesV PL) ∧ HasW wr w.heap.size 47 (mixTo st0 PL j).l ∧ Below w.heap.size w wr)
            (fun t _ => slen t)
          case atStart => exact ⟨0, _, by omega, rfl, fun _ => rfl, hr, hH, hb⟩
          case round =>
            clear hr hH hb hbs
            obtain ⟨j, ad, hj, rfl, had, hr, hH, hb⟩ := hrel
            have hgl := hr.lt
            have hgb := hr.base
            by_cases hlt : j < M
            · obtain rfl := had hlt
              clear had
              have hmx : mixTo st0 PL (j + 1) = mixB (mixTo st0 PL j) ((PL.drop (64 * j)).take 64) := rfl
              have HMX := hide hmx
              clear hmx
              have hby : ∀ i, i < 64 → ((PL.drop (64 * j)).take 64).getD i 0 = PL.getD (64 * j + i) 0 := by
                intro i hi
                rw [List.getD_eq_getElem?_getD, List.getD_eq_getElem?_getD, List.getElem?_take_of_lt hi, List.getElem?_drop]
              have HBY := hide hby
              clear hby
              generalize mixTo st0 PL j = sj at hH HMX
              generalize (PL.drop (64 * j)).take 64 = blk at HMX HBY
              obtain ⟨q, hq⟩ : ∃ q, M - j = q + 1 := ⟨M - j - 1, by omega⟩
              rw [hq]
              have HQ := hide hq
              clear hq
              have hq62 : decide ((0 : Int) < 64 * ((q : Int) + 1)) = true := by simp; omega
              obtain ⟨D, hD⟩ : ∃ D, D = wr.heap.size := ⟨_, rfl⟩
              obtain ⟨wo, hwo⟩ : ∃ wo : World, wo = wr.alloc (.cells (rowW zs) 48) := ⟨_, rfl⟩
              have hH1 : HasW wo w.heap.size 47 sj.l := by rw [hwo]; exact hH.alloc _
              have hr1 : BR wo (w.heap.size + 1) 5 g (64 * M) cap (bytesV PL) := by rw [hwo]; exact hr.alloc _
              have hb1 : Below w.heap.size w wo := by rw [hwo]; exact hb.alloc (by omega) _
              have hS1 : HasW wo D 48 (schR blk 0) := by rw [hwo, hD]; exact HasR.new wr 48 (rowW zs)
              have hDg : g < D := by omega
              go_wp2_with fail
              rw [zeros64, ← hwo, ← hD]
              clear hH hr hb hgl hwo hD
              clear wr
              go_loopw [65] (fun i wx => ∃ t : Nat, t ≤ 64 ∧ i = .int .i64 t ∧ HasW wx D 48 (schR blk t) ∧ HasW wx w.heap.size 47 sj.l ∧ BR wx (w.heap.size + 1) 5 g (64 * M) cap (bytesV PL) ∧ Below w.heap.size w wx)
                (fun i _ => 64 - (intOf i).toNat)
              case atStart => exact ⟨0, by omega, rfl, hS1, hH1, hr1, hb1⟩
              case round =>
                clear hS1 hH1 hr1 hb1
                obtain ⟨t, ht, rfl, hS, hH, hr, hb⟩ := hrel
                have hsl := schR_len blk t
                have hDl := hS.lt
                by_cases hlt : t < 64
                · by_cases h16 : t < 16
                  · have hdb : decide ((t : Int) < 16) = true := by simp; omega
                    have hdc : decide ((t : Int) < 64) = true := by simp; omega
                    have hbs : ∀ k, k < 4 → PL.getD (64 * j + 4 * t + k) 0 = [blk.getD (4 * t) 0, blk.getD (4 * t + 1) 0, blk.getD (4 * t + 2) 0, blk.getD (4 * t + 3) 0].getD k 0 := by
                      intro k hk
                      rcases (show k = 0 ∨ k = 1 ∨ k = 2 ∨ k = 3 by omega) with rfl | rfl | rfl | rfl
                      · exact (HBY.out (4 * t) (by omega)).symm
                      · exact (HBY.out (4 * t + 1) (by omega)).symm
                      · exact (HBY.out (4 * t + 2) (by omega)).symm
                      · exact (HBY.out (4 * t + 3) (by omega)).symm
                    have HBS := hide hbs
                    clear hbs
                    have hlow := hide (schR_low blk t h16)
                    have hlow0 := schR_low0 blk t h16
                    have hword : wordAt blk t = partW (blk.getD (4 * t) 0) (blk.getD (4 * t + 1) 0) (blk.getD (4 * t + 2) 0) (blk.getD (4 * t + 3) 0) 4 := (partW_full _ _ _ _).symm
                    rw [hword] at hlow
                    clear hword
                    generalize blk.getD (4 * t) 0 = b0 at HBS hlow
                    generalize blk.getD (4 * t + 1) 0 = b1 at HBS hlow
                    generalize blk.getD (4 * t + 2) 0 = b2 at HBS hlow
                    generalize blk.getD (4 * t + 3) 0 = b3 at HBS hlow
                    generalize hL1 : schR blk (t + 1) = Lt1 at hlow
                    have HL1 := hide hL1
                    clear hL1
                    have hS0 : HasW wr D 48 ((schR blk t).set t (partW b0 b1 b2 b3 0)) := by
                      have e : (schR blk t).set t (partW b0 b1 b2 b3 0) = schR blk t := by
                        show (schR blk t).set t 0 = _
                        rw [← hlow0]; exact wd_set_self _ _ (by omega)
                      rw [e]; exact hS
                    clear hS hlow0
                    generalize schR blk t = Lt at hlow hS0 hsl
                    go_wp2_with fail
                    go_loopw [78] (fun i wx => ∃ k : Nat, k ≤ 4 ∧ i = .int .i64 k ∧ HasW wx D 48 (Lt.set t (partW b0 b1 b2 b3 k)) ∧ HasW wx w.heap.size 47 sj.l ∧ BR wx (w.heap.size + 1) 5 g (64 * M) cap (bytesV PL) ∧ Below w.heap.size w wx)
                      (fun i _ => 4 - (intOf i).toNat)
                    case atStart => exact ⟨0, by omega, rfl, hS0, hH, hr, hb⟩
                    case round =>
                      clear hS0 hH hr hb
                      obtain ⟨k, hk, rfl, hS, hH, hr, hb⟩ := hrel
                      by_cases hk4 : k < 4
                      · have hcb := br_byte hr (64 * j + 4 * t + k) (by omega)
                        have hstep := hide (partW_step b0 b1 b2 b3 k hk4 _ (HBS.out k hk4))
                        have hcw := hS.cell t (by rw [List.length_set]; omega)
                        rw [wd_set_same _ _ _ (by omega)] at hcw
                        have hfw := hS.free t
                        have hset := hide (hS.set t (partW b0 b1 b2 b3 (k + 1)))
                        rw [List.set_set] at hset
                        generalize PL.getD (64 * j + 4 * t + k) 0 = c at hcb hstep
                        generalize partW b0 b1 b2 b3 k = x at hcw hstep
                        have hi1 : (0 : Int) ≤ (t : Int) := by omega
                        have hi2 : (t : Int) < 64 := by omega
                        go_wp2
                        go_roundw
                        case rel =>
                          rw [hstep.out]
                          exact ⟨k + 1, by omega, by go_num, hset.out, hH.other ⟨D, t, none⟩ (by simp; omega) _, hr.other ⟨D, t, none⟩ (by simp; omega) _, hb.setCell (p := ⟨D, t, none⟩) (by simp; omega) _⟩
                        case measure => simp [intOf]; omega
                      · obtain rfl : k = 4 := by omega
                        rw [hlow.out] at hS
                        have HS := hide hS
                        have HT := hide (show t + 1 ≤ 64 by omega)
                        go_wp2
                        go_roundw
                        case rel => exact ⟨t + 1, by omega, by go_num, by rw [HL1.out]; exact HS.out, hH, hr, hb⟩
                        case measure => simp [intOf]; omega
                  · obtain ⟨k, rfl⟩ : ∃ k, t = k + 16 := ⟨t - 16, by omega⟩
                    have hdb : decide (((k + 16 : Nat) : Int) < 16) = false := by simp; omega
                    have hdc : decide (((k + 16 : Nat) : Int) < 64) = true := by simp; omega
                    have hc0 := hS.cell k (by omega)
                    have hc1 := hS.cell (k + 1) (by omega)
                    have hc9 := hS.cell (k + 9) (by omega)
                    have hc14 := hS.cell (k + 14) (by omega)
                    have hc16 := hS.cell (k + 16) (by omega)
                    have hf16 := hS.free (k + 16)
                    have hhigh := hide (schR_high blk k)
                    have hS' := hS.set (k + 16) ((rr (wd (schR blk (k + 16)) (k + 14)) 17 ^^^ rr (wd (schR blk (k + 16)) (k + 14)) 19 ^^^ wd (schR blk (k + 16)) (k + 14) >>> 10) + wd (schR blk (k + 16)) (k + 9) + (rr (wd (schR blk (k + 16)) (k + 1)) 7 ^^^ rr (wd (schR blk (k + 16)) (k + 1)) 18 ^^^ wd (schR blk (k + 16)) (k + 1) >>> 3) + wd (schR blk (k + 16)) k)
                    rw [hhigh.out] at hS'
                    have HS := hide hS'
                    clear hS' hhigh hS
                    generalize wd (schR blk (k + 16)) k = y0 at hc0 HS
                    generalize wd (schR blk (k + 16)) (k + 1) = y1 at hc1 HS
                    generalize wd (schR blk (k + 16)) (k + 9) = y9 at hc9 HS
                    generalize wd (schR blk (k + 16)) (k + 14) = y14 at hc14 HS
                    generalize wd (schR blk (k + 16)) (k + 16) = y16 at hc16
                    have hi0 : (0 : Int) ≤ (k : Int) := by omega
                    have hi1 : (k : Int) + 16 < 64 := by omega
                    have hi2 : (k : Int) + 9 < 64 := by omega
                    have hi3 : (k : Int) < 64 := by omega
                    have hz9 : (0 : Int) ≤ (k : Int) + 9 := by omega
                    have hz16 : (0 : Int) ≤ (k : Int) + 16 := by omega
                    have ht9 : ((k : Int) + 9).toNat = k + 9 := by omega
                    have ht16 : ((k : Int) + 16).toNat = k + 16 := by omega
                    have hw2 : (k : Int) + 16 - 2 = (k : Int) + 14 := by omega
                    have hw15 : (k : Int) + 16 - 15 = (k : Int) + 1 := by omega
                    have hw7 : (k : Int) + 16 - 7 = (k : Int) + 9 := by omega
                    have hw0 : (k : Int) + 16 - 16 = (k : Int) := by omega
                    have hv7 : IntKind.i64.wrap ((k : Int) + 9) = (k : Int) + 9 := by rw [IntKind.wrap_i64]; omega
                    have hv0 : IntKind.i64.wrap (k : Int) = (k : Int) := by rw [IntKind.wrap_i64]; omega
                    go_wp2_with fail
                    go_quiet (fail)
                    go_wp2_with fail
                    go_region_held3 (fun w' => w'.cell? ⟨D, k + 9, none⟩ = some (.int .u32 (N y9)) ∧ w'.cell? ⟨D, k, none⟩ = some (.int .u32 (N y0))) (first | go_keep | exact ⟨keep_cell hc9 (by omega), keep_cell hc0 (by omega)⟩) (first | (go_at_call 48; refine (rot_any _ _ _ (by decide)).mono ?_; rintro e w' ⟨rfl, nd, rfl⟩))
                    all_goals (
                      go_wp2
                      go_roundw
                      case rel =>
                        exact ⟨k + 17, by omega, by go_num, HS.out.drewN _, (hH.other ⟨D, k + 16, none⟩ (by simp; omega) _).drewN _, (hr.other ⟨D, k + 16, none⟩ (by simp; omega) _).drewN _, below_drewN (hb.setCell (p := ⟨D, k + 16, none⟩) (by simp; omega) _) _⟩
                      case measure => simp [intOf]; omega)
                · obtain rfl : t = 64 := by omega
                  rw [schR_full] at hS hsl
                  have hmx : mixTo st0 PL (j + 1) = sj.add (turnTo (sched blk) sj 64) := HMX.out
                  generalize sched blk = L at hS hsl hmx
                  have HM1 := hide hmx
                  clear hmx HMX HBY hlt
                  obtain ⟨c0, c1, c2, c3, c4, c5, c6, c7⟩ := hH.eight
                  go_wp2_with fail
                  go_quiet (fail)
                  clear c0 c1 c2 c3 c4 c5 c6 c7
                  go_wp2_with fail
                  go_loopw [15, 16, 17, 18, 19, 20, 21, 22, 150] (fun xa xb xc xd xe xf xg xh i wx => ∃ t : Nat, t ≤ 64 ∧ i = .int .i64 t ∧ xa = .int .u32 (N (turnTo L sj t).a) ∧ xb = .int .u32 (N (turnTo L sj t).b) ∧ xc = .int .u32 (N (turnTo L sj t).c) ∧ xd = .int .u32 (N (turnTo L sj t).d) ∧ xe = .int .u32 (N (turnTo L sj t).e) ∧ xf = .int .u32 (N (turnTo L sj t).f) ∧ xg = .int .u32 (N (turnTo L sj t).g) ∧ xh = .int .u32 (N (turnTo L sj t).h) ∧ HasW wx D 48 L ∧ HasW wx w.heap.size 47 sj.l ∧ BR wx (w.heap.size + 1) 5 g (64 * M) cap (bytesV PL) ∧ Below w.heap.size w wx)
                    (fun _ _ _ _ _ _ _ _ i _ => 64 - (intOf i).toNat)
                  case atStart => exact ⟨0, by omega, rfl, rfl, rfl, rfl, rfl, rfl, rfl, rfl, rfl, hS.drewN _, hH.drewN _, hr.drewN _, below_drewN hb _⟩
                  case round =>
                    clear hS hH hr hb hDl
                    obtain ⟨t, ht, rfl, rfl, rfl, rfl, rfl, rfl, rfl, rfl, rfl, hS, hH, hr, hb⟩ := hrel
                    by_cases hlt : t < 64
                    · have hcS := hS.cell t (by omega)
                      have hcK := (hR.below hb hbl).2 t hlt
                      have hstp := hide (show turnTo L sj (t + 1) = step (turnTo L sj t) (wd L t + wd kTab t) from rfl)
                      generalize turnTo L sj t = v at hstp ⊢
                      have hone := hide (one_eq v (wd kTab t) (wd L t))
                      have htwo := hide (two_eq v)
                      generalize wd L t = wt at hcS hstp hone
                      generalize wd kTab t = kt at hcK hstp hone
                      have hi0 : (0 : Int) ≤ (t : Int) := by omega
                      have hi1 : (t : Int) < 64 := by omega
                      go_wp2_with fail
                      go_quiet ((go_at_call 48; exact Calls.quiet_of (rot_any _ _ _ (by decide))))
                      go_wp2_with (go_at_call 48; refine (rot_any _ _ _ (by decide)).mono ?_; rintro e w' ⟨rfl, nd, rfl⟩)
                      go_roundw
                      case rel =>
                        (repeat apply Exists.intro)
                        refine ⟨⟨t + 1, by omega, ?_, ?_, ?_, ?_, ?_, ?_, ?_, ?_, ?_, hS.drewN _, hH.drewN _, hr.drewN _, below_drewN hb _⟩, rfl⟩
                        · go_num
                        · rw [hone.out, htwo.out, hstp.out]; rfl
                        · rw [hstp.out]; rfl
                        · rw [hstp.out]; rfl
                        · rw [hstp.out]; rfl
                        · rw [hone.out, hstp.out]; rfl
                        · rw [hstp.out]; rfl
                        · rw [hstp.out]; rfl
                        · rw [hstp.out]; rfl
                      case measure => simp [intOf]; omega
                    · obtain rfl : t = 64 := by omega
                      generalize turnTo L sj 64 = vt at HM1 ⊢
                      have hcq : 64 * (q + 1) ≤ cap - 64 * j := by have := HQ.out; omega
                      clear hS hlt hsl
                      go_wp2_with fail
                      go_loopw [228] (fun i wx => ∃ k : Nat, k ≤ 8 ∧ i = .int .i64 k ∧ HasW wx w.heap.size 47 (addTo sj.l vt.l k) ∧ BR wx (w.heap.size + 1) 5 g (64 * M) cap (bytesV PL) ∧ Below w.heap.size w wx)
                        (fun i _ => 8 - (intOf i).toNat)
                      case atStart => exact ⟨0, by omega, rfl, hH, hr, hb⟩
                      case round =>
                        clear hH hr hb
                        obtain ⟨k, hk, rfl, hA, hr, hb⟩ := hrel
                        by_cases hlt : k < 8
                        · have hix := index8' vt k hlt
                          have hcA := hA.cell k (by rw [addTo_len]; exact hlt)
                          have hfA := hA.free k
                          have hset := hide (hA.set k (wd (addTo sj.l vt.l k) k + wd vt.l k))
                          have hadd := hide (show addTo sj.l vt.l (k + 1) = (addTo sj.l vt.l k).set k (wd (addTo sj.l vt.l k) k + wd vt.l k) from rfl)
                          generalize wd (addTo sj.l vt.l k) k = xk at hcA hset hadd
                          generalize wd vt.l k = yk at hix hset hadd
                          have hi3 : (k : Int) < 8 := by omega
                          have hi0 : (0 : Int) ≤ (k : Int) := by omega
                          go_wp2
                          go_roundw
                          case rel => exact ⟨k + 1, by omega, by go_num, by rw [hadd.out]; exact hset.out, hr.other ⟨w.heap.size, k, none⟩ (by simp; omega) _, hb.setCell (p := ⟨w.heap.size, k, none⟩) (Nat.le_refl _) _⟩
                          case measure => simp [intOf]; omega
                        · obtain rfl : k = 8 := by omega
                          rw [addTo_eight] at hA
                          have hA' : HasW wr w.heap.size 47 (mixTo st0 PL (j + 1)).l := by rw [HM1.out]; exact hA
                          clear hA hlt hk
                          generalize hmj : mixTo st0 PL (j + 1) = sj1 at hA'
                          have HMJ := hide hmj
                          clear hmj HM1
                          have hq3 := HQ.out
                          have hsl : ∀ a : Option Addr, Value.slice a (64 * (q + 1) - 64) (cap - 64 * j - 64) = Value.slice a (64 * (M - (j + 1))) (cap - 64 * (j + 1)) := by
                            intro a
                            have e1 : 64 * (q + 1) - 64 = 64 * (M - (j + 1)) := by omega
                            have e2 : cap - 64 * j - 64 = cap - 64 * (j + 1) := by omega
                            rw [e1, e2]
                          have had2 : j + 1 < M → (if cap - 64 * j = 64 then some (⟨g, 64 * j, none⟩ : Addr) else some ⟨g, 64 * j + 64, none⟩) = some ⟨g, 64 * (j + 1), none⟩ := by
                            intro h
                            rw [if_neg (by omega)]
                            rfl
                          have HSL := hide hsl
                          have HAD := hide had2
                          have HQ4 := hide (show j + 1 ≤ M by omega)
                          clear hsl had2 hq3
                          go_wp2
                          go_roundw
                          case rel => exact ⟨j + 1, _, HQ4.out, HSL.out _, HAD.out, hr, by rw [HMJ.out]; exact hA', hb⟩
                          case measure => simp [slen]; omega
            · obtain rfl : j = M := by omega
              generalize hs2 : mixTo st0 PL j = s2 at hH
              have HS2 := hide hs2
              clear hs2 had hgb hgl
              have h0b : decide ((0 : Int) < ((64 * (j - j) : Nat) : Int)) = false := by simp
              go_wp2_with ((with_reducible refine load_row 47 w.heap.size s2.l 47 ?_ ?_ Tryd.underlying47 ?_ ?_ ?_); rfl; exact hH; rfl; kernel_rfl)
              go_loopw [28, 240] (fun t i wx => ∃ k : Nat, k ≤ 8 ∧ i = .int .i64 k ∧ t = .string ⟨(stTo s2 k).toArray⟩ ∧ Below w.heap.size w wx)
                (fun _ i _ => 8 - (intOf i).toNat)
              case atStart => exact ⟨0, by omega, rfl, rfl, hb⟩
              case round =>
                clear hb hH hr
                obtain ⟨k, hk, rfl, rfl, hb⟩ := hrel
                by_cases hlt : k < 8
                · have hix := index8 s2 k hlt
                  have hst := hide (stTo_str s2 k hlt)
                  have hsl := stTo_len s2 k (by omega)
                  have hsl2 : (stTo s2 k).length ≤ 32 := by omega
                  clear hsl
                  generalize wd s2.l k = x at hix hst
                  generalize stTo s2 k = T at hst hsl2 ⊢
                  have hb4 : (bytes4 x).length ≤ 4 := Nat.le_refl 4
                  go_wp2_with ((with_reducible refine conv_out wr.heap.size 4 4 (bytes4 x) ?_ (br_four wr x) ?_); rfl)
                  go_roundw
                  case rel => exact ⟨k + 1, by omega, by go_num, hst.out, hb.alloc hb.size _⟩
                  case measure => simp [intOf]; omega
                · obtain rfl : k = 8 := by omega
                  go_wp2
                  go_ret
                  exact ⟨ret_val (by show Value.string ⟨(stTo s2 8).toArray⟩ = _; rw [hfin.out, HS2.out]; rfl), hb⟩
end Go.Proofs.YtjobghphjkeohaaDoor

/- A number as eight bytes: the document's own way. -/
namespace Go.Proofs.YtjobghphjkeohaaDoor
open Go.RowKit
set_option maxRecDepth 100000 in
set_option maxHeartbeats 400000 in
theorem refNum_any (n : Int) (w : World) :
    Calls Tryd.prog 31 #[.int .i64 n] w fun e w' => e = .returned (.string ⟨(num8 (u64of n)).toArray⟩) ∧ Below w.heap.size w w' := by
  have hw := u64of_wrap n
  have hnlt := u64of_lt n
  go_enter Tryd.func31, Tryd.ntmps31
  go_wp2
  go_loopw [3, 4, 7] (fun t u i wr => ∃ k : Nat, k ≤ 8 ∧ i = .int .i64 k ∧ u = .int .u64 ((u64of n / 256 ^ k : Nat) : Int) ∧ t = .string ⟨(numT (u64of n) k).toArray⟩ ∧ Below w.heap.size w wr)
    (fun _ _ i _ => 8 - (intOf i).toNat)
  case atStart => exact ⟨0, by omega, rfl, by simp, by simp [numT, num8], Below.refl _ _⟩
  case round =>
    obtain ⟨k, hk, rfl, rfl, rfl, hb⟩ := hrel
    by_cases hlt : k < 8
    · have hstep := hide (numT_step (u64of n) k hlt)
      have hlen := numT_len (u64of n) k
      have hu : u64of n / 256 ^ k < 18446744073709551616 := Nat.lt_of_le_of_lt (Nat.div_le_self _ _) hnlt
      have hdiv := hide (show u64of n / 256 ^ (k + 1) = u64of n / 256 ^ k / 256 by rw [Nat.pow_succ, Nat.div_div_eq_div_mul])
      generalize u64of n / 256 ^ k = u at hstep hu hdiv ⊢
      generalize numT (u64of n) k = t at hstep hlen ⊢
      go_wp2_with ((with_reducible refine conv_out wr.heap.size 1 1 [UInt8.ofNat u] ?_ (br_one wr u) ?_); rfl)
      go_roundw
      case rel => exact ⟨k + 1, by omega, by go_num, by rw [hdiv.out]; simp, by rw [← hstep.out, bytes_app]; simp, hb.alloc (by have := hb.size; omega) _⟩
      case measure => simp [intOf]; omega
    · obtain rfl : k = 8 := by omega
      go_wp2
      go_ret
      exact ⟨rfl, hb⟩
end Go.Proofs.YtjobghphjkeohaaDoor
