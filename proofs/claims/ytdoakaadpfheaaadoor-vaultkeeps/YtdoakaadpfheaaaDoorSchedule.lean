/- The schedule of a block: what the program's own function comes to, for every block of 64 bytes. -/
import Derived.Test.YtdoakaadpfheaaaDoorTurns
import Derived.Test.YtdoakaadpfheaaaDoorMem
import Derived.Test.YtdoakaadpfheaaaDoorSha
import Derived.Deep.RegionHeld3
import Derived.Deep.DrawnRows
namespace Go.Proofs.YtdoakaadpfheaaaDoor
open Go.RowKit
attribute [local go_sem] N_xor N_and N_or N_add N_addm N_add3 N_add4 N_add12 N_add13 N_not N_byte N_shl24 N_shl16 N_shl8 N_shr3 N_shr10
attribute [local go_sem ↓] Go.wp_at_zero Go.wp_at_succ
theorem word_ext (s : ByteArray) (k : Nat) (h0 : 0 < (s.extract (4 * k) (4 * k + 4)).size) (h1 : 1 < (s.extract (4 * k) (4 * k + 4)).size) (h2 : 2 < (s.extract (4 * k) (4 * k + 4)).size) (h3 : 3 < (s.extract (4 * k) (4 * k + 4)).size) :
    bw ((s.extract (4 * k) (4 * k + 4))[0]'h0) <<< 24 ||| bw ((s.extract (4 * k) (4 * k + 4))[1]'h1) <<< 16 ||| bw ((s.extract (4 * k) (4 * k + 4))[2]'h2) <<< 8 ||| bw ((s.extract (4 * k) (4 * k + 4))[3]'h3) = wordAt s.data.toList k := by
  rw [ext_at, ext_at, ext_at, ext_at]; rfl
set_option maxRecDepth 100000 in
set_option maxHeartbeats 400000 in
theorem schedule_any (s : ByteArray) (hs : s.size = 64) (w : World) :
    Calls Tryd.prog 89 #[.string s] w fun e w' => e = .returned (.agg (rowW (sched s.data.toList))) ∧ Below w.heap.size w w' := by
  go_enter Tryd.func89, Tryd.ntmps89
  go_wp2
  go_loopw [9] (fun i wr => ∃ k : Nat, k ≤ 16 ∧ i = .int .i64 k ∧ HasW wr (w.heap.size + 1) 71 (sch0 s.data.toList k) ∧ HasW wr w.heap.size 71 zs ∧ wr.heap.size = w.heap.size + 2 ∧ Below w.heap.size w wr)
     (fun i _ => 16 - (intOf i).toNat)
  case atStart =>
    rw [zeros64]
    exact ⟨0, by omega, rfl, HasR.new2 _ _ _ _, (HasR.new w 71 (rowW zs)).alloc _, by simp, ((Below.refl _ _).alloc (Nat.le_refl _) _).alloc (by simp) _⟩
  case round =>
    obtain ⟨k, hk, rfl, h1, h0, hsz, hb⟩ := hrel
    by_cases hlt : k < 16
    · have hbs : (s.extract (4 * k) (4 * k + 4)).size = 4 := by simp; omega
      have hk64 : (k : Int) < 64 := by omega
      have hf := h1.free k
      have hc := h1.cell k (by rw [sch0_len _ _ (by omega)]; omega)
      have hset : HasW (wr.setCell ⟨w.heap.size + 1, k, none⟩ (.int .u32 (N (wordAt s.data.toList k)))) (w.heap.size + 1) 71 (sch0 s.data.toList (k + 1)) := by
        rw [← sch0_succ _ _ (by omega)]; exact h1.set k _
      have h0' := h0.other ⟨w.heap.size + 1, k, none⟩ (by simp) (.int .u32 (N (wordAt s.data.toList k)))
      have hb' := hb.setCell (p := ⟨w.heap.size + 1, k, none⟩) (by simp) (.int .u32 (N (wordAt s.data.toList k)))
      rw [← word_ext s k (by omega) (by omega) (by omega) (by omega)] at hset h0' hb'
      have HS := hide hset
      have H0 := hide h0'
      have HB := hide hb'
      clear h1 h0 hset h0' hb' hb
      go_wp2
      go_region
      go_wp2
      go_roundw
      case rel =>
        try simp only [N_shl24, N_shl16, N_shl8, N_or]
        exact ⟨k + 1, by omega, by go_num, (HS.out).drew, (H0.out).drew, by simpa using hsz, (HB.out).drew⟩
      case measure => simp [intOf]; omega
    · obtain rfl : k = 16 := by omega
      go_wp2
      go_loopw [40] (fun i wx => ∃ k : Nat, k ≤ 48 ∧ i = .int .i64 k ∧ HasW wx (w.heap.size + 1) 71 (schT s.data.toList k) ∧ HasW wx w.heap.size 71 zs ∧ wx.heap.size = w.heap.size + 2 ∧ Below w.heap.size w wx)
        (fun i _ => 48 - (intOf i).toNat)
      case atStart => exact ⟨0, by omega, rfl, h1, h0, hsz, hb⟩
      case round =>
        clear h1 h0 hsz hb hk hlt
        obtain ⟨k, hk, rfl, h1, h0, hsz, hb⟩ := hrel
        by_cases hlt : k < 48
        · have hl := schT_len s.data.toList k
          have hc0 := h1.cell k (by omega)
          have hc1 := h1.cell (k + 1) (by omega)
          have hc9 := h1.cell (k + 9) (by omega)
          have hc14 := h1.cell (k + 14) (by omega)
          have hc16 := h1.cell (k + 16) (by omega)
          have hf16 := h1.free (k + 16)
          have hi0 : (0 : Int) ≤ (k : Int) := by omega
          have hi1 : (k : Int) + 16 < 64 := by omega
          have hi2 : (k : Int) + 9 < 64 := by omega
          have hi3 : (k : Int) < 64 := by omega
          have hz9 : (0 : Int) ≤ (k : Int) + 9 := by omega
          have hz16 : (0 : Int) ≤ (k : Int) + 16 := by omega
          have ht9 : ((k : Int) + 9).toNat = k + 9 := by omega
          have ht16 : ((k : Int) + 16).toNat = k + 16 := by omega
          have hw9 : IntKind.i64.wrap ((k : Int) + 9) = (k : Int) + 9 := by rw [IntKind.wrap_i64]; omega
          have hw16 : IntKind.i64.wrap ((k : Int) + 16) = (k : Int) + 16 := by rw [IntKind.wrap_i64]; omega
          have HS := hide (h1.set (k + 16) (nxt (schT s.data.toList k) k))
          have H0 := hide (h0.other ⟨w.heap.size + 1, k + 16, none⟩ (by simp) (.int .u32 (N (nxt (schT s.data.toList k) k))))
          have HB := hide (hb.setCell (p := ⟨w.heap.size + 1, k + 16, none⟩) (by simp) (.int .u32 (N (nxt (schT s.data.toList k) k))))
          clear h1 h0 hb
          go_wp2
          go_quiet (fail)
          go_wp2
          go_region_held3 (fun w' => w'.cell? ⟨w.heap.size + 1, k, none⟩ = some (.int .u32 (N (wd (schT s.data.toList k) k))) ∧ w'.cell? ⟨w.heap.size + 1, k + 9, none⟩ = some (.int .u32 (N (wd (schT s.data.toList k) (k + 9))))) (first | go_keep | exact ⟨keep_cell hc0 (by omega), keep_cell hc9 (by omega)⟩) (first | (go_at_call 116; refine (right_any _ _ _ (by decide)).mono ?_; rintro e w' ⟨rfl, rfl⟩))
          all_goals (
            go_wp2
            go_roundw
            case rel => (repeat apply Exists.intro); exact ⟨⟨k + 1, by omega, by go_num, HS.out.drewN _, H0.out.drewN _, by simpa using hsz, below_drewN HB.out _⟩, rfl⟩
            case measure => simp [intOf]; omega)
        · obtain rfl : k = 48 := by omega
          go_wp2_with (first
            | (refine wpList_load_row rfl 71 _ rfl (w.heap.size + 1) rfl 71 (rowW (schT s.data.toList 48)) (0, 0) _ h1 Tryd.underlying71 rfl (by rw [rowW_size, schT_len]; kernel_rfl) ?_)
            | (refine wpList_store_mid rfl 71 _ _ rfl w.heap.size 0 (rowW (schT s.data.toList 48)) rfl rfl (by rw [rowW_size, schT_len]; exact HasR.there h0) (by rw [rowW_size, schT_len]; kernel_rfl) (rowW_one _) ?_))
          have hw : HasR (wr.setCells w.heap.size 0 (rowW (schT s.data.toList 48)).toList) w.heap.size 71 (rowW (schT s.data.toList 48)) := by
            have := HasR.whole h0 (rowW (schT s.data.toList 48)).toList (by rw [Array.length_toList, rowW_size, rowW_size, schT_len, zs_len])
            simpa using this
          exact bodyPost_ret (v := .agg (rowW (sched s.data.toList))) (results_cell_row Tryd.results89 _ _ w.heap.size 71 (rowW (schT s.data.toList 48)) (0, 0) _ rfl hw Tryd.underlying71 rfl (by rw [rowW_size, schT_len]; kernel_rfl)) rfl ⟨rfl, below_setCells _ _ _ _ _ _ hb (Nat.le_refl _)⟩
end Go.Proofs.YtdoakaadpfheaaaDoor
