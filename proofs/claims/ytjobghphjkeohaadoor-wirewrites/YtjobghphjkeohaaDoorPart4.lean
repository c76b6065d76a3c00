/- Texts of this proof, one behind the other. -/
import Derived.BigRegion
import Derived.Lib.Strings
import Derived.Test.YtjobghphjkeohaaDoorPart3
/- A block mixed into a state: what the program's own 'mix' comes to. -/
namespace Go.Proofs.YtjobghphjkeohaaDoor
open Go.RowKit
attribute [local go_sem] N_add N_addm size_setCells
attribute [local go_sem ↓] Go.wp_at_zero Go.wp_at_succ
/-- The package's own table lies where it was laid. -/
def TabK (w : World) : Prop := ∀ i, i < 64 → w.cell? ⟨1, i, none⟩ = some (.int .u32 (N (wd kTab i)))
theorem round_lit (s : St) (m : BitVec 32) (w : World) :
    Calls Tryd.prog 61 #[.agg #[.int .u32 (N s.a), .int .u32 (N s.b), .int .u32 (N s.c), .int .u32 (N s.d), .int .u32 (N s.e), .int .u32 (N s.f), .int .u32 (N s.g), .int .u32 (N s.h)], .int .u32 (N m)] w fun e w' =>
      e = .returned (.agg #[.int .u32 (N (step s m).a), .int .u32 (N (step s m).b), .int .u32 (N (step s m).c), .int .u32 (N (step s m).d), .int .u32 (N (step s m).e), .int .u32 (N (step s m).f), .int .u32 (N (step s m).g), .int .u32 (N (step s m).h)]) ∧ Below w.heap.size w w' := round_any s m w
theorem HasW.eight {w : World} {B : Nat} {t : TypeId} {s : St} (h : HasW w B t s.l) : w.cell? ⟨B, 0, none⟩ = some (.int .u32 (N s.a)) ∧ w.cell? ⟨B, 1, none⟩ = some (.int .u32 (N s.b)) ∧ w.cell? ⟨B, 2, none⟩ = some (.int .u32 (N s.c)) ∧ w.cell? ⟨B, 3, none⟩ = some (.int .u32 (N s.d)) ∧ w.cell? ⟨B, 4, none⟩ = some (.int .u32 (N s.e)) ∧ w.cell? ⟨B, 5, none⟩ = some (.int .u32 (N s.f)) ∧ w.cell? ⟨B, 6, none⟩ = some (.int .u32 (N s.g)) ∧ w.cell? ⟨B, 7, none⟩ = some (.int .u32 (N s.h)) :=
  ⟨HasR.cell h 0, HasR.cell h 1, HasR.cell h 2, HasR.cell h 3, HasR.cell h 4, HasR.cell h 5, HasR.cell h 6, HasR.cell h 7⟩
theorem HasW.eightFree {w : World} {B : Nat} {t : TypeId} {l : List (BitVec 32)} (h : HasW w B t l) : w.frozen? ⟨B, 0, none⟩ = false ∧ w.frozen? ⟨B, 1, none⟩ = false ∧ w.frozen? ⟨B, 2, none⟩ = false ∧ w.frozen? ⟨B, 3, none⟩ = false ∧ w.frozen? ⟨B, 4, none⟩ = false ∧ w.frozen? ⟨B, 5, none⟩ = false ∧ w.frozen? ⟨B, 6, none⟩ = false ∧ w.frozen? ⟨B, 7, none⟩ = false :=
  ⟨h.free 0, h.free 1, h.free 2, h.free 3, h.free 4, h.free 5, h.free 6, h.free 7⟩
theorem TabK.lt {w : World} (h : TabK w) : 1 < w.heap.size := block_lt_of_cell (h 0 (by omega))
theorem TabK.below {w w' : World} {B : Nat} (h : TabK w) (hb : Below B w w') (hB : 1 < B) : TabK w' := fun i hi => by
  rw [hb.cell (p := ⟨1, i, none⟩) hB]; exact h i hi
set_option maxRecDepth 100000 in
set_option maxHeartbeats 1000000 in
theorem mix_any (st : St) (s : ByteArray) (hs : s.size = 64) (w : World) (hK : TabK w) :
    Calls Tryd.prog 56 #[st.v, .string s] w fun e w' => e = .returned (mixB st s.data.toList).v ∧ Below w.heap.size w w' := by
  have h0 := hK.lt
  have hc := schedule_any s hs
  have hlen := sched_len s.data.toList
  have hM : mixB st s.data.toList = st.add (turnTo (sched s.data.toList) st 64) := rfl
  rw [hM, v_row]
  clear hM
  generalize sched s.data.toList = L at hc hlen ⊢
  go_enter Tryd.func56, Tryd.ntmps56
  go_wp2_with fail
  refine (hc _).mono ?_
  rintro e w1 ⟨rfl, hb1⟩
  clear hc
  have hA : HasR w1 w.heap.size 47 #[.int .u32 (N st.a), .int .u32 (N st.b), .int .u32 (N st.c), .int .u32 (N st.d), .int .u32 (N st.e), .int .u32 (N st.f), .int .u32 (N st.g), .int .u32 (N st.h)] :=
    ((HasR.new w 47 _).alloc _).below hb1 (by simp; omega)
  have hZ : HasR w1 (w.heap.size + 1) 47 #[.int .u32 0, .int .u32 0, .int .u32 0, .int .u32 0, .int .u32 0, .int .u32 0, .int .u32 0, .int .u32 0] :=
    (HasR.new2 w _ 47 _).below hb1 (by simp)
  have hsz1 : w.heap.size + 2 ≤ w1.heap.size := by have := hb1.size; simpa using this
  have hbw : Below w.heap.size w w1 := (((Below.refl _ _).alloc (Nat.le_refl _) _).alloc (by simp) _).trans (hb1.mono (by simp; omega))
  have hK1 := hK.below hbw h0
  clear hb1
  go_wp2_with (first
    | ((with_reducible refine store_row 48 w1.heap.size L 48 (rowW zs) ?_ ?_ ?_ ?_ ?_ ?_); rfl; rfl; exact HasR.new w1 48 (rowW zs); (rw [rowW_size, hlen, zs_len]); (rw [hlen]; kernel_rfl); rw [zeros64]; generalize hW2 : World.setCells _ _ _ _ = W2; have hS2 : HasW W2 w1.heap.size 48 L := whole_words (HasR.new w1 48 (rowW zs)) hW2 (by rw [hlen, rowW_size, zs_len]); have hA2 : HasW W2 w.heap.size 47 st.l := HasR.others' (hA.alloc _) hW2 (by omega); have hZ2 := HasR.others' (hZ.alloc (.cells (rowW zs) 48)) hW2 (by omega); have hsz2 : W2.heap.size = w1.heap.size + 1 := (by rw [← hW2, size_setCells]; simp); have hb2 : Below w.heap.size w W2 := below_setCells' (hbw.alloc (by omega) _) hW2 (by omega); clear hW2)
    | ((with_reducible refine load_row 47 w.heap.size st.l 47 ?_ ?_ Tryd.underlying47 ?_ ?_ ?_); rfl; exact hA2; rfl; kernel_rfl)
    | ((with_reducible refine store_row 47 (w1.heap.size + 1) st.l 47 _ ?_ ?_ (HasR.new' hsz2 47 _) ?_ ?_ ?_); rfl; rfl; rfl; kernel_rfl; generalize hW3 : World.setCells _ _ _ _ = W3; have hV3 : HasW W3 (w1.heap.size + 1) 47 st.l := whole_words (HasR.new' hsz2 47 _) hW3 rfl; have hS3 : HasW W3 w1.heap.size 48 L := HasR.others' (hS2.alloc _) hW3 (by omega); have hA3 : HasW W3 w.heap.size 47 st.l := HasR.others' (hA2.alloc _) hW3 (by omega); have hZ3 := HasR.others' (hZ2.alloc _) hW3 (by omega); have hb3 : Below w.heap.size w W3 := below_setCells' (hb2.alloc (by omega) _) hW3 (by omega); clear hW3 hS2 hA2 hZ2 hb2 hsz2))
  rename_i W2 W3
  clear hA hZ hbw hK1
  go_loopw [12] (fun i wr => ∃ k : Nat, k ≤ 64 ∧ i = .int .i64 k ∧ HasW wr w1.heap.size 48 L ∧ HasW wr w.heap.size 47 st.l ∧ HasR wr (w.heap.size + 1) 47 #[.int .u32 0, .int .u32 0, .int .u32 0, .int .u32 0, .int .u32 0, .int .u32 0, .int .u32 0, .int .u32 0] ∧ HasW wr (w1.heap.size + 1) 47 (turnTo L st k).l ∧ Below w.heap.size w wr)
    (fun i _ => 64 - (intOf i).toNat)
  case atStart => exact ⟨0, by omega, rfl, by assumption, by assumption, by assumption, by assumption, by assumption⟩
  case round =>
    obtain ⟨k, hk, rfl, hS, hA, hZ, hV, hb⟩ := hrel
    by_cases hlt : k < 64
    · have hcS := hS.cell k (by omega)
      have hcK := hK.below hb h0 k hlt
      obtain ⟨c0, c1, c2, c3, c4, c5, c6, c7⟩ := hV.eight
      have hi3 : (k : Int) < 64 := by omega
      have hi0 : (0 : Int) ≤ (k : Int) := by omega
      go_wp2_with fail
      go_region_with (first | (go_at_call 61; refine (round_lit (turnTo L st k) (wd L k + wd kTab k) _).mono ?_; rintro e w' ⟨rfl, hb'⟩; have hV' : HasW w' (w1.heap.size + 1) 47 (turnTo L st k).l := (hV.drew.below hb' hV.lt); obtain ⟨d0, d1, d2, d3, d4, d5, d6, d7⟩ := hV'.eight; obtain ⟨f0, f1, f2, f3, f4, f5, f6, f7⟩ := hV'.eightFree))
      all_goals (
        go_wp2
        go_roundw
        case rel =>
          have hlA := hA.lt
          first
            | exact ⟨k + 1, by omega, by go_num, HasR.other8 (hS.drew.below hb' hS.lt) (by omega) _ _ _ _ _ _ _ _, HasR.other8 (hA.drew.below hb' hA.lt) (by omega) _ _ _ _ _ _ _ _, HasR.other8 (hZ.drew.below hb' hZ.lt) (by omega) _ _ _ _ _ _ _ _, HasR.set8 hV' rfl _ _ _ _ _ _ _ _, below_set8 (hb.drew.trans (hb'.mono (Nat.le_of_lt hlA))) (by omega) _ _ _ _ _ _ _ _⟩
            | ((repeat apply Exists.intro); exact ⟨⟨k + 1, by omega, by go_num, HasR.other8 (hS.drew.below hb' hS.lt) (by omega) _ _ _ _ _ _ _ _, HasR.other8 (hA.drew.below hb' hA.lt) (by omega) _ _ _ _ _ _ _ _, HasR.other8 (hZ.drew.below hb' hZ.lt) (by omega) _ _ _ _ _ _ _ _, HasR.set8 hV' rfl _ _ _ _ _ _ _ _, below_set8 (hb.drew.trans (hb'.mono (Nat.le_of_lt hlA))) (by omega) _ _ _ _ _ _ _ _⟩, rfl⟩)
        case measure => simp [intOf]; omega)
    · obtain rfl : k = 64 := by omega
      have hKr := hK.below hb h0
      clear hS hK hlt hk
      go_wp2
      generalize hvt : turnTo L st 64 = vt at hV ⊢
      have HVT := hide hvt
      clear hvt
      go_loopw [25] (fun i wx => ∃ k : Nat, k ≤ 8 ∧ i = .int .i64 k ∧ HasW wx w.heap.size 47 (addTo st.l vt.l k) ∧ HasR wx (w.heap.size + 1) 47 #[.int .u32 0, .int .u32 0, .int .u32 0, .int .u32 0, .int .u32 0, .int .u32 0, .int .u32 0, .int .u32 0] ∧ HasW wx (w1.heap.size + 1) 47 vt.l ∧ Below w.heap.size w wx)
        (fun i _ => 8 - (intOf i).toNat)
      case atStart => exact ⟨0, by omega, rfl, hA, hZ, hV, hb⟩
      case round =>
        clear hA hZ hV hb
        obtain ⟨k, hk, rfl, hA, hZ, hV, hb⟩ := hrel
        by_cases hlt : k < 8
        · have hcA := hA.cell k (by rw [addTo_len]; exact hlt)
          have hcV := hV.cell k hlt
          have hfA := hA.free k
          have hi3 : (k : Int) < 8 := by omega
          have hi0 : (0 : Int) ≤ (k : Int) := by omega
          go_wp2
          go_region
          all_goals (
            go_wp2
            go_roundw
            case rel =>
              first
                | exact ⟨k + 1, by omega, by go_num, (hA.set k _).drew, (hZ.other ⟨w.heap.size, k, none⟩ (by simp) _).drew, (hV.other ⟨w.heap.size, k, none⟩ (by simp; omega) _).drew, (hb.setCell (p := ⟨w.heap.size, k, none⟩) (Nat.le_refl _) _).drew⟩
                | ((repeat apply Exists.intro); exact ⟨⟨k + 1, by omega, by go_num, (hA.set k _).drew, (hZ.other ⟨w.heap.size, k, none⟩ (by simp) _).drew, (hV.other ⟨w.heap.size, k, none⟩ (by simp; omega) _).drew, (hb.setCell (p := ⟨w.heap.size, k, none⟩) (Nat.le_refl _) _).drew⟩, rfl⟩)
            case measure => simp [intOf]; omega)
        · obtain rfl : k = 8 := by omega
          rw [addTo_eight] at hA
          generalize hsv : st.add vt = sv at hA ⊢
          have HSV := hide hsv
          clear hsv
          go_wp2_with (first
            | ((with_reducible refine load_row 47 w.heap.size sv.l 47 ?_ ?_ Tryd.underlying47 ?_ ?_ ?_); rfl; exact hA; rfl; kernel_rfl)
            | ((with_reducible refine store_row 47 (w.heap.size + 1) sv.l 47 _ ?_ ?_ hZ ?_ ?_ ?_); rfl; rfl; rfl; kernel_rfl; generalize hW4 : World.setCells _ _ _ _ = W4; have hR4 : HasW W4 (w.heap.size + 1) 47 sv.l := whole_words hZ hW4 rfl; have hb4 : Below w.heap.size w W4 := below_setCells' hb hW4 (by omega); clear hW4))
          exact bodyPost_ret (v := sv.v) (results_cell_row Tryd.results56 _ _ (w.heap.size + 1) 47 (rowW sv.l) (0, 0) _ rfl hR4 Tryd.underlying47 rfl (by kernel_rfl)) rfl ⟨by rw [HVT.out, HSV.out], hb4⟩
end Go.Proofs.YtjobghphjkeohaaDoor

/- Blocks mixed in one behind the other: what the program's own 'firstState' and 'mixAll' come to. -/
namespace Go.Proofs.YtjobghphjkeohaaDoor
open Go.RowKit
attribute [local go_sem] size_setCells
attribute [local go_sem ↓] Go.wp_at_zero Go.wp_at_succ
/-- The first state. -/
def st0 : St := ⟨1779033703#32, 3144134277#32, 1013904242#32, 2773480762#32, 1359893119#32, 2600822924#32, 528734635#32, 1541459225#32⟩
set_option maxRecDepth 100000 in
set_option maxHeartbeats 400000 in
theorem firstState_any (w : World) :
    Calls Tryd.prog 50 #[] w fun e w' => e = .returned (.agg #[.int .u32 (N st0.a), .int .u32 (N st0.b), .int .u32 (N st0.c), .int .u32 (N st0.d), .int .u32 (N st0.e), .int .u32 (N st0.f), .int .u32 (N st0.g), .int .u32 (N st0.h)]) ∧ Below w.heap.size w w' := by
  go_enter Tryd.func50, Tryd.ntmps50
  go_wp2
  refine bodyPost_ret (v := .agg #[.int .u32 1779033703, .int .u32 3144134277, .int .u32 1013904242, .int .u32 2773480762, .int .u32 1359893119, .int .u32 2600822924, .int .u32 528734635, .int .u32 1541459225]) (by simp [results, Tryd.results50, go_sem]) rfl ⟨rfl, ?_⟩
  exact (Below.refl _ _).alloc (Nat.le_refl _) _
/-- The state behind k blocks. -/
def mixTo (st : St) (l : List UInt8) : Nat → St
  | 0 => st
  | k + 1 => mixB (mixTo st l k) ((l.drop (64 * k)).take 64)
theorem mix_lit (st : St) (s : ByteArray) (hs : s.size = 64) (w : World) (hK : TabK w) :
    Calls Tryd.prog 56 #[.agg #[.int .u32 (N st.a), .int .u32 (N st.b), .int .u32 (N st.c), .int .u32 (N st.d), .int .u32 (N st.e), .int .u32 (N st.f), .int .u32 (N st.g), .int .u32 (N st.h)], .string s] w fun e w' =>
      e = .returned (.agg #[.int .u32 (N (mixB st s.data.toList).a), .int .u32 (N (mixB st s.data.toList).b), .int .u32 (N (mixB st s.data.toList).c), .int .u32 (N (mixB st s.data.toList).d), .int .u32 (N (mixB st s.data.toList).e), .int .u32 (N (mixB st s.data.toList).f), .int .u32 (N (mixB st s.data.toList).g), .int .u32 (N (mixB st s.data.toList).h)]) ∧ Below w.heap.size w w' := mix_any st s hs w hK
theorem mix_ext (st : St) (s : ByteArray) (k : Nat) (hs : (s.extract (k * 64) ((k + 1) * 64)).size = 64) (w : World) (hK : TabK w) :
    Calls Tryd.prog 56 #[.agg #[.int .u32 (N (mixTo st s.data.toList k).a), .int .u32 (N (mixTo st s.data.toList k).b), .int .u32 (N (mixTo st s.data.toList k).c), .int .u32 (N (mixTo st s.data.toList k).d), .int .u32 (N (mixTo st s.data.toList k).e), .int .u32 (N (mixTo st s.data.toList k).f), .int .u32 (N (mixTo st s.data.toList k).g), .int .u32 (N (mixTo st s.data.toList k).h)], .string (s.extract (k * 64) ((k + 1) * 64))] w fun e w' =>
      e = .returned (.agg #[.int .u32 (N (mixTo st s.data.toList (k + 1)).a), .int .u32 (N (mixTo st s.data.toList (k + 1)).b), .int .u32 (N (mixTo st s.data.toList (k + 1)).c), .int .u32 (N (mixTo st s.data.toList (k + 1)).d), .int .u32 (N (mixTo st s.data.toList (k + 1)).e), .int .u32 (N (mixTo st s.data.toList (k + 1)).f), .int .u32 (N (mixTo st s.data.toList (k + 1)).g), .int .u32 (N (mixTo st s.data.toList (k + 1)).h)]) ∧ Below w.heap.size w w' := by
  have h := mix_lit (mixTo st s.data.toList k) (s.extract (k * 64) ((k + 1) * 64)) hs w hK
  have e : (s.extract (k * 64) ((k + 1) * 64)).data.toList = (s.data.toList.drop (64 * k)).take 64 := by
    rw [Lib.extract_data]
    have e1 : (k + 1) * 64 - k * 64 = 64 := by omega
    rw [e1, Nat.mul_comm k 64]
  rw [e] at h
  exact h
set_option maxRecDepth 100000 in
set_option maxHeartbeats 1000000 in
theorem mixAll_any (st : St) (s : ByteArray) (m : Nat) (hs : s.size = 64 * m) (hm : m ≤ 100000) (w : World) (hK : TabK w) :
    Calls Tryd.prog 49 #[.agg #[.int .u32 (N st.a), .int .u32 (N st.b), .int .u32 (N st.c), .int .u32 (N st.d), .int .u32 (N st.e), .int .u32 (N st.f), .int .u32 (N st.g), .int .u32 (N st.h)], .string s] w fun e w' => e = .returned (mixTo st s.data.toList m).v ∧ Below w.heap.size w w' := by
  have h0 := hK.lt
  have hq : (s.size : Int) / 64 = (m : Int) := by omega
  go_enter Tryd.func49, Tryd.ntmps49
  go_wp2
  go_loopw [9] (fun i wr => ∃ k : Nat, k ≤ m ∧ i = .int .i64 k ∧ HasW wr w.heap.size 47 (mixTo st s.data.toList k).l ∧ HasR wr (w.heap.size + 1) 47 #[.int .u32 0, .int .u32 0, .int .u32 0, .int .u32 0, .int .u32 0, .int .u32 0, .int .u32 0, .int .u32 0] ∧ Below w.heap.size w wr)
    (fun i _ => m - (intOf i).toNat)
  case atStart => exact ⟨0, by omega, rfl, (HasR.new w 47 _).alloc _, HasR.new2 w _ 47 _, ((Below.refl _ _).alloc (Nat.le_refl _) _).alloc (by simp) _⟩
  case round =>
    obtain ⟨k, hk, rfl, hA, hZ, hb⟩ := hrel
    by_cases hlt : k < m
    · have hes : (s.extract (k * 64) ((k + 1) * 64)).size = 64 := by rw [ByteArray.size_extract]; omega
      have hKr := hK.below hb h0
      have hc := fun wx hx => mix_ext st s k hes wx hx
      clear hq
      generalize hsx : mixTo st s.data.toList (k + 1) = sx at hc
      generalize mixTo st s.data.toList k = sk at hc hA
      have HX := hide hsx
      clear hsx
      obtain ⟨c0, c1, c2, c3, c4, c5, c6, c7⟩ := hA.eight
      have hi1 : (0 : Int) ≤ (k : Int) := by omega
      have hi2 : ((k : Int) + 1) * 64 ≤ (s.size : Int) := by omega
      have hi3 : (k : Int) * 64 ≤ ((k : Int) + 1) * 64 := by omega
      have hi4 : (0 : Int) ≤ (k : Int) * 64 := by omega
      have hi5 : (0 : Int) ≤ ((k : Int) + 1) * 64 := by omega
      have hw1 : IntKind.i64.wrap ((k : Int) * 64) = (k : Int) * 64 := by rw [IntKind.wrap_i64]; omega
      have hw2 : IntKind.i64.wrap ((k : Int) + 1) = (k : Int) + 1 := by rw [IntKind.wrap_i64]; omega
      have hw3 : IntKind.i64.wrap (((k : Int) + 1) * 64) = ((k : Int) + 1) * 64 := by rw [IntKind.wrap_i64]; omega
      have ht1 : ((k : Int) * 64).toNat = k * 64 := by omega
      have ht2 : (((k : Int) + 1) * 64).toNat = (k + 1) * 64 := by omega
      have hn1 : k * 64 ≤ (k + 1) * 64 := by omega
      have hn2 : (k + 1) * 64 ≤ s.size := by omega
      clear hs
      have HC := hide hc
      clear hc
      go_wp2_with fail
      go_region_with (first | (go_at_call 56; refine (HC.out wr.drew (show TabK wr.drew from hKr)).mono ?_; rintro e w' ⟨rfl, hb'⟩; have hV' : HasW w' w.heap.size 47 sk.l := (hA.drew.below hb' hA.lt); obtain ⟨d0, d1, d2, d3, d4, d5, d6, d7⟩ := hV'.eight; obtain ⟨f0, f1, f2, f3, f4, f5, f6, f7⟩ := hV'.eightFree))
      all_goals (
        go_wp2
        go_roundw
        case rel =>
          have hlA := hA.lt
          first
            | exact ⟨k + 1, by omega, by go_num, by rw [HX.out]; exact HasR.set8 hV' rfl _ _ _ _ _ _ _ _, HasR.other8 (hZ.drew.below hb' hZ.lt) (by omega) _ _ _ _ _ _ _ _, below_set8 (hb.drew.trans (hb'.mono (Nat.le_of_lt hlA))) (by omega) _ _ _ _ _ _ _ _⟩
            | ((repeat apply Exists.intro); exact ⟨⟨k + 1, by omega, by go_num, by rw [HX.out]; exact HasR.set8 hV' rfl _ _ _ _ _ _ _ _, HasR.other8 (hZ.drew.below hb' hZ.lt) (by omega) _ _ _ _ _ _ _ _, below_set8 (hb.drew.trans (hb'.mono (Nat.le_of_lt hlA))) (by omega) _ _ _ _ _ _ _ _⟩, rfl⟩)
        case measure => simp [intOf]; omega)
    · obtain rfl : k = m := by omega
      generalize hsv : mixTo st s.data.toList k = sv at hA
      have HSV := hide hsv
      clear hsv hq hs
      go_wp2_with (first
        | ((with_reducible refine load_row 47 w.heap.size sv.l 47 ?_ ?_ Tryd.underlying47 ?_ ?_ ?_); rfl; exact hA; rfl; kernel_rfl)
        | ((with_reducible refine store_row 47 (w.heap.size + 1) sv.l 47 _ ?_ ?_ hZ ?_ ?_ ?_); rfl; rfl; rfl; kernel_rfl; generalize hW4 : World.setCells _ _ _ _ = W4; have hR4 : HasW W4 (w.heap.size + 1) 47 sv.l := whole_words hZ hW4 rfl; have hb4 : Below w.heap.size w W4 := below_setCells' hb hW4 (by omega); clear hW4))
      exact bodyPost_ret (v := sv.v) (results_cell_row Tryd.results49 _ _ (w.heap.size + 1) 47 (rowW sv.l) (0, 0) _ rfl hR4 Tryd.underlying47 rfl (by kernel_rfl)) rfl ⟨by rw [HSV.out], hb4⟩
end Go.Proofs.YtjobghphjkeohaaDoor

/- A number's eight bytes: what the program's own 'appendNum' and 'Num' come to, and the document's. -/
namespace Go.Proofs.YtjobghphjkeohaaDoor
open Go.RowKit
/-- The k-th byte of a number, the greatest first. -/
def numB (x k : Nat) : UInt8 := UInt8.ofNat (x / 2 ^ (56 - 8 * k))
def num8 (x : Nat) : List UInt8 := (List.range 8).map (numB x)
theorem num8_len (x : Nat) : (num8 x).length = 8 := by simp [num8]
theorem numB_val (x k : Nat) : ((numB x k).toNat : Int) = (x : Int) / 2 ^ (56 - 8 * k) % 256 := by
  unfold numB
  rw [UInt8.toNat_ofNat']
  simp
theorem num8_step (l : List UInt8) (x k : Nat) (h : k < 8) : bytesV (l ++ (num8 x).take k) ++ [Value.int .u8 ((x : Int) / 2 ^ (56 - 8 * k) % 256)] = bytesV (l ++ (num8 x).take (k + 1)) := by
  have e : (num8 x).take (k + 1) = (num8 x).take k ++ [numB x k] := by
    rw [List.take_succ_eq_append_getElem (by rw [num8_len]; exact h)]
    simp [num8]
  rw [e, ← List.append_assoc, bytesV_app]
  simp [bytesV, numB_val]
set_option maxRecDepth 100000 in
set_option maxHeartbeats 400000 in
theorem appendNum_any (base : Nat) (v : Value) (n : Nat) (l : List UInt8) (x : Nat) (w : World) (_hx : x < 18446744073709551616) (hv : BRn w base 5 v n (bytesV l)) (hn : n ≤ 900000) (hbase : base ≤ w.heap.size) :
    Calls Tryd.prog 42 #[v, .int .u64 x] w fun e w' => ∃ g cap, e = .returned (.slice (some ⟨g, 0, none⟩) (n + 8) cap) ∧ BR w' base 5 g (n + 8) cap (bytesV (l ++ num8 x)) ∧ Below base w w' := by
  obtain ⟨i5, hE⟩ := elemB
  go_enter Tryd.func42, Tryd.ntmps42
  go_wp2
  go_loopw [0, 6] (fun t i wr => ∃ k : Nat, k ≤ 8 ∧ i = .int .i64 k ∧ BRn wr base 5 t (n + k) (bytesV (l ++ (num8 x).take k)) ∧ Below base w wr ∧ base ≤ wr.heap.size)
    (fun _ i _ => 8 - (intOf i).toNat)
  case atStart => exact ⟨0, by omega, rfl, by simpa using hv, Below.refl _ _, hbase⟩
  case round =>
    obtain ⟨k, hk, rfl, hr, hb, hbs⟩ := hrel
    by_cases hlt : k < 8
    · go_wp2_with (at_builtin; refine append_br 5 hE base _ (n + k) (bytesV (l ++ (num8 x).take k)) ⟨wr.heap.size, 0, none⟩ 1 1 [.int .u8 ((x : Int) / 2 ^ (56 - 8 * k) % 256)] rfl rfl (hr.alloc _) rfl (by omega) (news_one _ _) (one_u8 _) (by omega) (by simp; omega) ?_; intro g cap w' hb' hg hl hbel; rw [num8_step l x k hlt] at hb')
      go_roundw
      case rel => exact ⟨k + 1, by omega, by go_num, BRn.of hb', (hb.alloc hbs _).trans hbel, by have := hb'.lt; have := hb'.base; omega⟩
      case measure => simp [intOf]; omega
    · obtain rfl : k = 8 := by omega
      have e8 : (num8 x).take 8 = num8 x := List.take_of_length_le (by rw [num8_len]; omega)
      rw [e8] at hr
      rcases hr with ⟨_, h0, _⟩ | ⟨g, cap, hv', hr⟩
      · omega
      · go_wp2
        go_ret
        exact ⟨g, cap, ret_val hv', hr, hb⟩
/-- A number's 64 bits. -/
def u64of (n : Int) : Nat := (n % 18446744073709551616).toNat
theorem u64of_lt (n : Int) : u64of n < 18446744073709551616 := by unfold u64of; omega
theorem u64of_wrap (n : Int) : IntKind.u64.wrap n = ((u64of n : Nat) : Int) := by
  rw [IntKind.wrap_u64]; unfold u64of; omega
theorem u64of_nat (n : Nat) (h : n < 18446744073709551616) : u64of (n : Int) = n := by unfold u64of; omega
set_option maxRecDepth 100000 in
set_option maxHeartbeats 400000 in
theorem num_any (n : Int) (w : World) :
    Calls Tryd.prog 33 #[.int .i64 n] w fun e w' => e = .returned (.string ⟨(num8 (u64of n)).toArray⟩) ∧ Below w.heap.size w w' := by
  have hw := u64of_wrap n
  have hlt := u64of_lt n
  go_enter Tryd.func33, Tryd.ntmps33
  go_wp2_with fail
  refine (appendNum_any w.heap.size _ 0 [] (u64of n) w hlt (BRn.nil _ _ _) (by omega) (Nat.le_refl _)).mono ?_
  rintro e w1 ⟨g, cap, rfl, hr, hb⟩
  go_wp2_with ((with_reducible refine conv_out g (0 + 8) cap (num8 (u64of n)) ?_ hr ?_); rfl)
  go_ret
  exact ⟨rfl, hb⟩
/-- The bytes behind k divisions. -/
def numT (x k : Nat) : List UInt8 := (num8 x).drop (8 - k)
theorem numT_len (x k : Nat) : (numT x k).length ≤ 8 := by simp [numT, num8]
theorem numT_step (x k : Nat) (h : k < 8) : UInt8.ofNat (x / 256 ^ k) :: numT x k = numT x (k + 1) := by
  unfold numT
  rw [List.drop_eq_getElem_cons (i := 8 - (k + 1)) (by rw [num8_len]; omega)]
  have e : 8 - (k + 1) + 1 = 8 - k := by omega
  rw [e]
  congr 1
  simp only [num8, List.getElem_map, List.getElem_range, numB]
  have e2 : 56 - 8 * (8 - (k + 1)) = 8 * k := by omega
  rw [e2, Nat.pow_mul]
theorem numT_full (x : Nat) : numT x 8 = num8 x := rfl
end Go.Proofs.YtjobghphjkeohaaDoor
