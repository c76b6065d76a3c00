/- A block mixed into a state: what the program's own 'mix' comes to. -/
import Derived.Test.YtdoakaadpfheaaaDoorRound
import Derived.Test.YtdoakaadpfheaaaDoorSchedule
import Derived.BigRegion
namespace Go.Proofs.YtdoakaadpfheaaaDoor
open Go.RowKit
attribute [local go_sem] N_add N_addm size_setCells
attribute [local go_sem ↓] Go.wp_at_zero Go.wp_at_succ
/-- The package's own table lies where it was laid. -/
def TabK (w : World) : Prop := ∀ i, i < 64 → w.cell? ⟨1, i, none⟩ = some (.int .u32 (N (wd kTab i)))
theorem round_lit (s : St) (m : BitVec 32) (w : World) :
    Calls Tryd.prog 90 #[.agg #[.int .u32 (N s.a), .int .u32 (N s.b), .int .u32 (N s.c), .int .u32 (N s.d), .int .u32 (N s.e), .int .u32 (N s.f), .int .u32 (N s.g), .int .u32 (N s.h)], .int .u32 (N m)] w fun e w' =>
      e = .returned (.agg #[.int .u32 (N (step s m).a), .int .u32 (N (step s m).b), .int .u32 (N (step s m).c), .int .u32 (N (step s m).d), .int .u32 (N (step s m).e), .int .u32 (N (step s m).f), .int .u32 (N (step s m).g), .int .u32 (N (step s m).h)]) ∧ Below w.heap.size w w' := round_any s m w
theorem HasW.eight {w : World} {B : Nat} {t : TypeId} {s : St} (h : HasW w B t s.l) : w.cell? ⟨B, 0, none⟩ = some (.int .u32 (N s.a)) ∧ w.cell? ⟨B, 1, none⟩ = some (.int .u32 (N s.b)) ∧ w.cell? ⟨B, 2, none⟩ = some (.int .u32 (N s.c)) ∧ w.cell? ⟨B, 3, none⟩ = some (.int .u32 (N s.d)) ∧ w.cell? ⟨B, 4, none⟩ = some (.int .u32 (N s.e)) ∧ w.cell? ⟨B, 5, none⟩ = some (.int .u32 (N s.f)) ∧ w.cell? ⟨B, 6, none⟩ = some (.int .u32 (N s.g)) ∧ w.cell? ⟨B, 7, none⟩ = some (.int .u32 (N s.h)) :=
  ⟨HasR.cell h 0, HasR.cell h 1, HasR.cell h 2, HasR.cell h 3, HasR.cell h 4, HasR.cell h 5, HasR.cell h 6, HasR.cell h 7⟩
theorem HasW.eightFree {w : World} {B : Nat} {t : TypeId} {l : List (BitVec 32)} (h : HasW w B t l) : w.frozen? ⟨B, 0, none⟩ = false ∧ w.frozen? ⟨B, 1, none⟩ = false ∧ w.frozen? ⟨B, 2, none⟩ = false ∧ w.frozen? ⟨B, 3, none⟩ = false ∧ w.frozen? ⟨B, 4, none⟩ = false ∧ w.frozen? ⟨B, 5, none⟩ = false ∧ w.frozen? ⟨B, 6, none⟩ = false ∧ w.frozen? ⟨B, 7, none⟩ = false :=
  ⟨h.free 0, h.free 1, h.free 2, h.free 3, h.free 4, h.free 5, h.free 6, h.free 7⟩
theorem TabK.lt {w : World} (h : TabK w) : 1 < w.heap.size := block_lt_of_cell (h 0 (by omega))
theorem TabK.below {w w' : World} {B : Nat} (h : TabK w) (hb : Below B w w') (hB : 1 < B) : TabK w' := fun i hi => by
  rw [hb.cell (p := ⟨1, i, none⟩) hB]; exact h i hi
set_option maxRecDepth 100000 in
set_option maxHeartbeats 1000000 in
theorem mix_any (st : St) (s : ByteArray) (hs : s.size = 64) (w : World) (hK : TabK w) :
    Calls Tryd.prog 71 #[st.v, .string s] w fun e w' => e = .returned (mixB st s.data.toList).v ∧ Below w.heap.size w w' := by
  have h0 := hK.lt
  have hc := schedule_any s hs
  have hlen := sched_len s.data.toList
  have hM : mixB st s.data.toList = st.add (turnTo (sched s.data.toList) st 64) := rfl
  rw [hM, v_row]
  clear hM
  generalize sched s.data.toList = L at hc hlen ⊢
  go_enter Tryd.func71, Tryd.ntmps71
  go_wp2_with fail
  refine (hc _).mono ?_
  rintro e w1 ⟨rfl, hb1⟩
  clear hc
  have hA : HasR w1 w.heap.size 70 #[.int .u32 (N st.a), .int .u32 (N st.b), .int .u32 (N st.c), .int .u32 (N st.d), .int .u32 (N st.e), .int .u32 (N st.f), .int .u32 (N st.g), .int .u32 (N st.h)] :=
    ((HasR.new w 70 _).alloc _).below hb1 (by simp; omega)
  have hZ : HasR w1 (w.heap.size + 1) 70 #[.int .u32 0, .int .u32 0, .int .u32 0, .int .u32 0, .int .u32 0, .int .u32 0, .int .u32 0, .int .u32 0] :=
    (HasR.new2 w _ 70 _).below hb1 (by simp)
  have hsz1 : w.heap.size + 2 ≤ w1.heap.size := by have := hb1.size; simpa using this
  have hbw : Below w.heap.size w w1 := (((Below.refl _ _).alloc (Nat.le_refl _) _).alloc (by simp) _).trans (hb1.mono (by simp; omega))
  have hK1 := hK.below hbw h0
  clear hb1
  go_wp2_with (first
    | ((with_reducible refine store_row 71 w1.heap.size L 71 (rowW zs) ?_ ?_ ?_ ?_ ?_ ?_); rfl; rfl; exact HasR.new w1 71 (rowW zs); (rw [rowW_size, hlen, zs_len]); (rw [hlen]; kernel_rfl); rw [zeros64]; generalize hW2 : World.setCells _ _ _ _ = W2; have hS2 : HasW W2 w1.heap.size 71 L := whole_words (HasR.new w1 71 (rowW zs)) hW2 (by rw [hlen, rowW_size, zs_len]); have hA2 : HasW W2 w.heap.size 70 st.l := HasR.others' (hA.alloc _) hW2 (by omega); have hZ2 := HasR.others' (hZ.alloc (.cells (rowW zs) 71)) hW2 (by omega); have hsz2 : W2.heap.size = w1.heap.size + 1 := (by rw [← hW2, size_setCells]; simp); have hb2 : Below w.heap.size w W2 := below_setCells' (hbw.alloc (by omega) _) hW2 (by omega); clear hW2)
    | ((with_reducible refine load_row 70 w.heap.size st.l 70 ?_ ?_ Tryd.underlying70 ?_ ?_ ?_); rfl; exact hA2; rfl; kernel_rfl)
    | ((with_reducible refine store_row 70 (w1.heap.size + 1) st.l 70 _ ?_ ?_ (HasR.new' hsz2 70 _) ?_ ?_ ?_); rfl; rfl; rfl; kernel_rfl; generalize hW3 : World.setCells _ _ _ _ = W3; have hV3 : HasW W3 (w1.heap.size + 1) 70 st.l := whole_words (HasR.new' hsz2 70 _) hW3 rfl; have hS3 : HasW W3 w1.heap.size 71 L := HasR.others' (hS2.alloc _) hW3 (by omega); have hA3 : HasW W3 w.heap.size 70 st.l := HasR.others' (hA2.alloc _) hW3 (by omega); have hZ3 := HasR.others' (hZ2.alloc _) hW3 (by omega); have hb3 : Below w.heap.size w W3 := below_setCells' (hb2.alloc (by omega) _) hW3 (by omega); clear hW3 hS2 hA2 hZ2 hb2 hsz2))
  rename_i W2 W3
  clear hA hZ hbw hK1
  go_loopw [12] (fun i wr => ∃ k : Nat, k ≤ 64 ∧ i = .int .i64 k ∧ HasW wr w1.heap.size 71 L ∧ HasW wr w.heap.size 70 st.l ∧ HasR wr (w.heap.size + 1) 70 #[.int .u32 0, .int .u32 0, .int .u32 0, .int .u32 0, .int .u32 0, .int .u32 0, .int .u32 0, .int .u32 0] ∧ HasW wr (w1.heap.size + 1) 70 (turnTo L st k).l ∧ Below w.heap.size w wr)
    (fun i _ => 64 - (intOf i).toNat)
  case atStart => exact ⟨0, by omega, rfl, by assumption, by assumption, by assumption, by assumption, by assumption⟩
  case round =>
    obtain ⟨k, hk, rfl, hS, hA, hZ, hV, hb⟩ := hrel
    by_cases hlt : k < 64
    · have hcS := hS.cell k (by omega)
      have hcK := hK.below hb h0 k hlt
      obtain ⟨c0, c1, c2, c3, c4, c5, c6, c7⟩ := hV.eight
      have hi3 : (k : Int) < 64 := by omega
      have hi0 : (0 : Int) ≤ (k : Int) := by omega
      go_wp2_with fail
      go_region_with (first | (go_at_call 90; refine (round_lit (turnTo L st k) (wd L k + wd kTab k) _).mono ?_; rintro e w' ⟨rfl, hb'⟩; have hV' : HasW w' (w1.heap.size + 1) 70 (turnTo L st k).l := (hV.drew.below hb' hV.lt); obtain ⟨d0, d1, d2, d3, d4, d5, d6, d7⟩ := hV'.eight; obtain ⟨f0, f1, f2, f3, f4, f5, f6, f7⟩ := hV'.eightFree))
      all_goals (
        go_wp2
        go_roundw
        case rel =>
          have hlA := hA.lt
          first
            | exact ⟨k + 1, by omega, by go_num, HasR.other8 (hS.drew.below hb' hS.lt) (by omega) _ _ _ _ _ _ _ _, HasR.other8 (hA.drew.below hb' hA.lt) (by omega) _ _ _ _ _ _ _ _, HasR.other8 (hZ.drew.below hb' hZ.lt) (by omega) _ _ _ _ _ _ _ _, HasR.set8 hV' rfl _ _ _ _ _ _ _ _, below_set8 (hb.drew.trans (hb'.mono (Nat.le_of_lt hlA))) (by omega) _ _ _ _ _ _ _ _⟩
            | ((repeat apply Exists.intro); exact ⟨⟨k + 1, by omega, by go_num, HasR.other8 (hS.drew.below hb' hS.lt) (by omega) _ _ _ _ _ _ _ _, HasR.other8 (hA.drew.below hb' hA.lt) (by omega) _ _ _ _ _ _ _ _, HasR.other8 (hZ.drew.below hb' hZ.lt) (by omega) _ _ _ _ _ _ _ _, HasR.set8 hV' rfl _ _ _ _ _ _ _ _, below_set8 (hb.drew.trans (hb'.mono (Nat.le_of_lt hlA))) (by omega) _ _ _ _ _ _ _ _⟩, rfl⟩)
        case measure => simp [intOf]; omega)
    · obtain rfl : k = 64 := by omega
      have hKr := hK.below hb h0
      clear hS hK hlt hk
      go_wp2
      generalize hvt : turnTo L st 64 = vt at hV ⊢
      have HVT := hide hvt
      clear hvt
      go_loopw [25] (fun i wx => ∃ k : Nat, k ≤ 8 ∧ i = .int .i64 k ∧ HasW wx w.heap.size 70 (addTo st.l vt.l k) ∧ HasR wx (w.heap.size + 1) 70 #[.int .u32 0, .int .u32 0, .int .u32 0, .int .u32 0, .int .u32 0, .int .u32 0, .int .u32 0, .int .u32 0] ∧ HasW wx (w1.heap.size + 1) 70 vt.l ∧ Below w.heap.size w wx)
        (fun i _ => 8 - (intOf i).toNat)
      case atStart => exact ⟨0, by omega, rfl, hA, hZ, hV, hb⟩
      case round =>
        clear hA hZ hV hb
        obtain ⟨k, hk, rfl, hA, hZ, hV, hb⟩ := hrel
        by_cases hlt : k < 8
        · have hcA := hA.cell k (by rw [addTo_len]; exact hlt)
          have hcV := hV.cell k hlt
          have hfA := hA.free k
          have hi3 : (k : Int) < 8 := by omega
          have hi0 : (0 : Int) ≤ (k : Int) := by omega
          go_wp2
          go_region
          all_goals (
            go_wp2
            go_roundw
            case rel =>
              first
                | exact ⟨k + 1, by omega, by go_num, (hA.set k _).drew, (hZ.other ⟨w.heap.size, k, none⟩ (by simp) _).drew, (hV.other ⟨w.heap.size, k, none⟩ (by simp; omega) _).drew, (hb.setCell (p := ⟨w.heap.size, k, none⟩) (Nat.le_refl _) _).drew⟩
                | ((repeat apply Exists.intro); exact ⟨⟨k + 1, by omega, by go_num, (hA.set k _).drew, (hZ.other ⟨w.heap.size, k, none⟩ (by simp) _).drew, (hV.other ⟨w.heap.size, k, none⟩ (by simp; omega) _).drew, (hb.setCell (p := ⟨w.heap.size, k, none⟩) (Nat.le_refl _) _).drew⟩, rfl⟩)
            case measure => simp [intOf]; omega)
        · obtain rfl : k = 8 := by omega
          rw [addTo_eight] at hA
          generalize hsv : st.add vt = sv at hA ⊢
          have HSV := hide hsv
          clear hsv
          go_wp2_with (first
            | ((with_reducible refine load_row 70 w.heap.size sv.l 70 ?_ ?_ Tryd.underlying70 ?_ ?_ ?_); rfl; exact hA; rfl; kernel_rfl)
            | ((with_reducible refine store_row 70 (w.heap.size + 1) sv.l 70 _ ?_ ?_ hZ ?_ ?_ ?_); rfl; rfl; rfl; kernel_rfl; generalize hW4 : World.setCells _ _ _ _ = W4; have hR4 : HasW W4 (w.heap.size + 1) 70 sv.l := whole_words hZ hW4 rfl; have hb4 : Below w.heap.size w W4 := below_setCells' hb hW4 (by omega); clear hW4))
          exact bodyPost_ret (v := sv.v) (results_cell_row Tryd.results71 _ _ (w.heap.size + 1) 70 (rowW sv.l) (0, 0) _ rfl hR4 Tryd.underlying70 rfl (by kernel_rfl)) rfl ⟨by rw [HVT.out, HSV.out], hb4⟩
end Go.Proofs.YtdoakaadpfheaaaDoor
