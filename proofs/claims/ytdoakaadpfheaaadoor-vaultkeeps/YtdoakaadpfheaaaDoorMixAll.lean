/- Blocks mixed in one behind the other: what the program's own 'firstState' and 'mixAll' come to. -/
import Derived.Test.YtdoakaadpfheaaaDoorMix
import Derived.Lib.Strings
namespace Go.Proofs.YtdoakaadpfheaaaDoor
open Go.RowKit
attribute [local go_sem] size_setCells
attribute [local go_sem ↓] Go.wp_at_zero Go.wp_at_succ
/-- The first state. -/
def st0 : St := ⟨1779033703#32, 3144134277#32, 1013904242#32, 2773480762#32, 1359893119#32, 2600822924#32, 528734635#32, 1541459225#32⟩
set_option maxRecDepth 100000 in
set_option maxHeartbeats 400000 in
theorem firstState_any (w : World) :
    Calls Tryd.prog 48 #[] w fun e w' => e = .returned (.agg #[.int .u32 (N st0.a), .int .u32 (N st0.b), .int .u32 (N st0.c), .int .u32 (N st0.d), .int .u32 (N st0.e), .int .u32 (N st0.f), .int .u32 (N st0.g), .int .u32 (N st0.h)]) ∧ Below w.heap.size w w' := by
  go_enter Tryd.func48, Tryd.ntmps48
  go_wp2
  refine bodyPost_ret (v := .agg #[.int .u32 1779033703, .int .u32 3144134277, .int .u32 1013904242, .int .u32 2773480762, .int .u32 1359893119, .int .u32 2600822924, .int .u32 528734635, .int .u32 1541459225]) (by simp [results, Tryd.results48, go_sem]) rfl ⟨rfl, ?_⟩
  exact (Below.refl _ _).alloc (Nat.le_refl _) _
/-- The state behind k blocks. -/
def mixTo (st : St) (l : List UInt8) : Nat → St
  | 0 => st
  | k + 1 => mixB (mixTo st l k) ((l.drop (64 * k)).take 64)
theorem mix_lit (st : St) (s : ByteArray) (hs : s.size = 64) (w : World) (hK : TabK w) :
    Calls Tryd.prog 71 #[.agg #[.int .u32 (N st.a), .int .u32 (N st.b), .int .u32 (N st.c), .int .u32 (N st.d), .int .u32 (N st.e), .int .u32 (N st.f), .int .u32 (N st.g), .int .u32 (N st.h)], .string s] w fun e w' =>
      e = .returned (.agg #[.int .u32 (N (mixB st s.data.toList).a), .int .u32 (N (mixB st s.data.toList).b), .int .u32 (N (mixB st s.data.toList).c), .int .u32 (N (mixB st s.data.toList).d), .int .u32 (N (mixB st s.data.toList).e), .int .u32 (N (mixB st s.data.toList).f), .int .u32 (N (mixB st s.data.toList).g), .int .u32 (N (mixB st s.data.toList).h)]) ∧ Below w.heap.size w w' := mix_any st s hs w hK
theorem mix_ext (st : St) (s : ByteArray) (k : Nat) (hs : (s.extract (k * 64) ((k + 1) * 64)).size = 64) (w : World) (hK : TabK w) :
    Calls Tryd.prog 71 #[.agg #[.int .u32 (N (mixTo st s.data.toList k).a), .int .u32 (N (mixTo st s.data.toList k).b), .int .u32 (N (mixTo st s.data.toList k).c), .int .u32 (N (mixTo st s.data.toList k).d), .int .u32 (N (mixTo st s.data.toList k).e), .int .u32 (N (mixTo st s.data.toList k).f), .int .u32 (N (mixTo st s.data.toList k).g), .int .u32 (N (mixTo st s.data.toList k).h)], .string (s.extract (k * 64) ((k + 1) * 64))] w fun e w' =>
      e = .returned (.agg #[.int .u32 (N (mixTo st s.data.toList (k + 1)).a), .int .u32 (N (mixTo st s.data.toList (k + 1)).b), .int .u32 (N (mixTo st s.data.toList (k + 1)).c), .int .u32 (N (mixTo st s.data.toList (k + 1)).d), .int .u32 (N (mixTo st s.data.toList (k + 1)).e), .int .u32 (N (mixTo st s.data.toList (k + 1)).f), .int .u32 (N (mixTo st s.data.toList (k + 1)).g), .int .u32 (N (mixTo st s.data.toList (k + 1)).h)]) ∧ Below w.heap.size w w' := by
  have h := mix_lit (mixTo st s.data.toList k) (s.extract (k * 64) ((k + 1) * 64)) hs w hK
  have e : (s.extract (k * 64) ((k + 1) * 64)).data.toList = (s.data.toList.drop (64 * k)).take 64 := by
    rw [Lib.extract_data]
    have e1 : (k + 1) * 64 - k * 64 = 64 := by omega
    rw [e1, Nat.mul_comm k 64]
  rw [e] at h
  exact h
set_option maxRecDepth 100000 in
set_option maxHeartbeats 1000000 in
theorem mixAll_any (st : St) (s : ByteArray) (m : Nat) (hs : s.size = 64 * m) (hm : m ≤ 100000) (w : World) (hK : TabK w) :
    Calls Tryd.prog 47 #[.agg #[.int .u32 (N st.a), .int .u32 (N st.b), .int .u32 (N st.c), .int .u32 (N st.d), .int .u32 (N st.e), .int .u32 (N st.f), .int .u32 (N st.g), .int .u32 (N st.h)], .string s] w fun e w' => e = .returned (mixTo st s.data.toList m).v ∧ Below w.heap.size w w' := by
  have h0 := hK.lt
  have hq : (s.size : Int) / 64 = (m : Int) := by omega
  go_enter Tryd.func47, Tryd.ntmps47
  go_wp2
  go_loopw [9] (fun i wr => ∃ k : Nat, k ≤ m ∧ i = .int .i64 k ∧ HasW wr w.heap.size 70 (mixTo st s.data.toList k).l ∧ HasR wr (w.heap.size + 1) 70 #[.int .u32 0, .int .u32 0, .int .u32 0, .int .u32 0, .int .u32 0, .int .u32 0, .int .u32 0, .int .u32 0] ∧ Below w.heap.size w wr)
    (fun i _ => m - (intOf i).toNat)
  case atStart => exact ⟨0, by omega, rfl, (HasR.new w 70 _).alloc _, HasR.new2 w _ 70 _, ((Below.refl _ _).alloc (Nat.le_refl _) _).alloc (by simp) _⟩
  case round =>
    obtain ⟨k, hk, rfl, hA, hZ, hb⟩ := hrel
    by_cases hlt : k < m
    · have hes : (s.extract (k * 64) ((k + 1) * 64)).size = 64 := by rw [ByteArray.size_extract]; omega
      have hKr := hK.below hb h0
      have hc := fun wx hx => mix_ext st s k hes wx hx
      clear hq
      generalize hsx : mixTo st s.data.toList (k + 1) = sx at hc
      generalize mixTo st s.data.toList k = sk at hc hA
      have HX := hide hsx
      clear hsx
      obtain ⟨c0, c1, c2, c3, c4, c5, c6, c7⟩ := hA.eight
      have hi1 : (0 : Int) ≤ (k : Int) := by omega
      have hi2 : ((k : Int) + 1) * 64 ≤ (s.size : Int) := by omega
      have hi3 : (k : Int) * 64 ≤ ((k : Int) + 1) * 64 := by omega
      have hi4 : (0 : Int) ≤ (k : Int) * 64 := by omega
      have hi5 : (0 : Int) ≤ ((k : Int) + 1) * 64 := by omega
      have hw1 : IntKind.i64.wrap ((k : Int) * 64) = (k : Int) * 64 := by rw [IntKind.wrap_i64]; omega
      have hw2 : IntKind.i64.wrap ((k : Int) + 1) = (k : Int) + 1 := by rw [IntKind.wrap_i64]; omega
      have hw3 : IntKind.i64.wrap (((k : Int) + 1) * 64) = ((k : Int) + 1) * 64 := by rw [IntKind.wrap_i64]; omega
      have ht1 : ((k : Int) * 64).toNat = k * 64 := by omega
      have ht2 : (((k : Int) + 1) * 64).toNat = (k + 1) * 64 := by omega
      have hn1 : k * 64 ≤ (k + 1) * 64 := by omega
      have hn2 : (k + 1) * 64 ≤ s.size := by omega
      clear hs
      have HC := hide hc
      clear hc
      go_wp2_with fail
      go_region_with (first | (go_at_call 71; refine (HC.out wr.drew (show TabK wr.drew from hKr)).mono ?_; rintro e w' ⟨rfl, hb'⟩; have hV' : HasW w' w.heap.size 70 sk.l := (hA.drew.below hb' hA.lt); obtain ⟨d0, d1, d2, d3, d4, d5, d6, d7⟩ := hV'.eight; obtain ⟨f0, f1, f2, f3, f4, f5, f6, f7⟩ := hV'.eightFree))
      all_goals (
        go_wp2
        go_roundw
        case rel =>
          have hlA := hA.lt
          first
            | exact ⟨k + 1, by omega, by go_num, by rw [HX.out]; exact HasR.set8 hV' rfl _ _ _ _ _ _ _ _, HasR.other8 (hZ.drew.below hb' hZ.lt) (by omega) _ _ _ _ _ _ _ _, below_set8 (hb.drew.trans (hb'.mono (Nat.le_of_lt hlA))) (by omega) _ _ _ _ _ _ _ _⟩
            | ((repeat apply Exists.intro); exact ⟨⟨k + 1, by omega, by go_num, by rw [HX.out]; exact HasR.set8 hV' rfl _ _ _ _ _ _ _ _, HasR.other8 (hZ.drew.below hb' hZ.lt) (by omega) _ _ _ _ _ _ _ _, below_set8 (hb.drew.trans (hb'.mono (Nat.le_of_lt hlA))) (by omega) _ _ _ _ _ _ _ _⟩, rfl⟩)
        case measure => simp [intOf]; omega)
    · obtain rfl : k = m := by omega
      generalize hsv : mixTo st s.data.toList k = sv at hA
      have HSV := hide hsv
      clear hsv hq hs
      go_wp2_with (first
        | ((with_reducible refine load_row 70 w.heap.size sv.l 70 ?_ ?_ Tryd.underlying70 ?_ ?_ ?_); rfl; exact hA; rfl; kernel_rfl)
        | ((with_reducible refine store_row 70 (w.heap.size + 1) sv.l 70 _ ?_ ?_ hZ ?_ ?_ ?_); rfl; rfl; rfl; kernel_rfl; generalize hW4 : World.setCells _ _ _ _ = W4; have hR4 : HasW W4 (w.heap.size + 1) 70 sv.l := whole_words hZ hW4 rfl; have hb4 : Below w.heap.size w W4 := below_setCells' hb hW4 (by omega); clear hW4))
      exact bodyPost_ret (v := sv.v) (results_cell_row Tryd.results47 _ _ (w.heap.size + 1) 70 (rowW sv.l) (0, 0) _ rfl hR4 Tryd.underlying70 rfl (by kernel_rfl)) rfl ⟨by rw [HSV.out], hb4⟩
end Go.Proofs.YtdoakaadpfheaaaDoor
