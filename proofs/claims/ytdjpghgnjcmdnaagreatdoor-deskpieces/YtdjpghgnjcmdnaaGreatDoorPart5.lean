/- Texts of this proof, one behind the other. -/
import Derived.Lib.Strings
import Derived.Deep.DeepCutAuto
import Derived.Test.YtdjpghgnjcmdnaaGreatDoorPart4
/- Blocks mixed in one behind the other: what the program's own 'firstState' and 'mixAll' come to. -/
namespace Go.Proofs.YtdjpghgnjcmdnaaGreatDoor
open Go.RowKit
attribute [local go_sem] size_setCells
attribute [local go_sem ↓] Go.wp_at_zero Go.wp_at_succ
/-- The first state. -/
def st0 : St := ⟨1779033703#32, 3144134277#32, 1013904242#32, 2773480762#32, 1359893119#32, 2600822924#32, 528734635#32, 1541459225#32⟩
set_option maxRecDepth 100000 in
set_option maxHeartbeats 400000 in
theorem firstState_any (w : World) :
    Calls Tryz.prog 97 #[] w fun e w' => e = .returned (.agg #[.int .u32 (N st0.a), .int .u32 (N st0.b), .int .u32 (N st0.c), .int .u32 (N st0.d), .int .u32 (N st0.e), .int .u32 (N st0.f), .int .u32 (N st0.g), .int .u32 (N st0.h)]) ∧ Below w.heap.size w w' := by
  go_enter Tryz.func97, Tryz.ntmps97
  go_wp2
  refine bodyPost_ret (v := .agg #[.int .u32 1779033703, .int .u32 3144134277, .int .u32 1013904242, .int .u32 2773480762, .int .u32 1359893119, .int .u32 2600822924, .int .u32 528734635, .int .u32 1541459225]) (by simp [results, Tryz.results97, go_sem]) rfl ⟨rfl, ?_⟩
  exact (Below.refl _ _).alloc (Nat.le_refl _) _
/-- The state behind k blocks. -/
def mixTo (st : St) (l : List UInt8) : Nat → St
  | 0 => st
  | k + 1 => mixB (mixTo st l k) ((l.drop (64 * k)).take 64)
theorem mix_lit (st : St) (s : ByteArray) (hs : s.size = 64) (w : World) (hK : TabK w) :
    Calls Tryz.prog 136 #[.agg #[.int .u32 (N st.a), .int .u32 (N st.b), .int .u32 (N st.c), .int .u32 (N st.d), .int .u32 (N st.e), .int .u32 (N st.f), .int .u32 (N st.g), .int .u32 (N st.h)], .string s] w fun e w' =>
      e = .returned (.agg #[.int .u32 (N (mixB st s.data.toList).a), .int .u32 (N (mixB st s.data.toList).b), .int .u32 (N (mixB st s.data.toList).c), .int .u32 (N (mixB st s.data.toList).d), .int .u32 (N (mixB st s.data.toList).e), .int .u32 (N (mixB st s.data.toList).f), .int .u32 (N (mixB st s.data.toList).g), .int .u32 (N (mixB st s.data.toList).h)]) ∧ Below w.heap.size w w' := mix_any st s hs w hK
theorem mix_ext (st : St) (s : ByteArray) (k : Nat) (hs : (s.extract (k * 64) ((k + 1) * 64)).size = 64) (w : World) (hK : TabK w) :
    Calls Tryz.prog 136 #[.agg #[.int .u32 (N (mixTo st s.data.toList k).a), .int .u32 (N (mixTo st s.data.toList k).b), .int .u32 (N (mixTo st s.data.toList k).c), .int .u32 (N (mixTo st s.data.toList k).d), .int .u32 (N (mixTo st s.data.toList k).e), .int .u32 (N (mixTo st s.data.toList k).f), .int .u32 (N (mixTo st s.data.toList k).g), .int .u32 (N (mixTo st s.data.toList k).h)], .string (s.extract (k * 64) ((k + 1) * 64))] w fun e w' =>
      e = .returned (.agg #[.int .u32 (N (mixTo st s.data.toList (k + 1)).a), .int .u32 (N (mixTo st s.data.toList (k + 1)).b), .int .u32 (N (mixTo st s.data.toList (k + 1)).c), .int .u32 (N (mixTo st s.data.toList (k + 1)).d), .int .u32 (N (mixTo st s.data.toList (k + 1)).e), .int .u32 (N (mixTo st s.data.toList (k + 1)).f), .int .u32 (N (mixTo st s.data.toList (k + 1)).g), .int .u32 (N (mixTo st s.data.toList (k + 1)).h)]) ∧ Below w.heap.size w w' := by
  have h := mix_lit (mixTo st s.data.toList k) (s.extract (k * 64) ((k + 1) * 64)) hs w hK
  have e : (s.extract (k * 64) ((k + 1) * 64)).data.toList = (s.data.toList.drop (64 * k)).take 64 := by
    rw [Lib.extract_data]
    have e1 : (k + 1) * 64 - k * 64 = 64 := by omega
    rw [e1, Nat.mul_comm k 64]
  rw [e] at h
  exact h
set_option maxRecDepth 100000 in
set_option maxHeartbeats 1000000 in
theorem mixAll_any (st : St) (s : ByteArray) (m : Nat) (hs : s.size = 64 * m) (hm : m ≤ 100000) (w : World) (hK : TabK w) :
    Calls Tryz.prog 96 #[.agg #[.int .u32 (N st.a), .int .u32 (N st.b), .int .u32 (N st.c), .int .u32 (N st.d), .int .u32 (N st.e), .int .u32 (N st.f), .int .u32 (N st.g), .int .u32 (N st.h)], .string s] w fun e w' => e = .returned (mixTo st s.data.toList m).v ∧ Below w.heap.size w w' := by
  have h0 := hK.lt
  have hq : (s.size : Int) / 64 = (m : Int) := by omega
  go_enter Tryz.func96, Tryz.ntmps96
  go_wp2
  go_loopw [9] (fun i wr => ∃ k : Nat, k ≤ m ∧ i = .int .i64 k ∧ HasW wr w.heap.size 150 (mixTo st s.data.toList k).l ∧ HasR wr (w.heap.size + 1) 150 #[.int .u32 0, .int .u32 0, .int .u32 0, .int .u32 0, .int .u32 0, .int .u32 0, .int .u32 0, .int .u32 0] ∧ Below w.heap.size w wr)
    (fun i _ => m - (intOf i).toNat)
  case atStart => exact ⟨0, by omega, rfl, (HasR.new w 150 _).alloc _, HasR.new2 w _ 150 _, ((Below.refl _ _).alloc (Nat.le_refl _) _).alloc (by simp) _⟩
  case round =>
    obtain ⟨k, hk, rfl, hA, hZ, hb⟩ := hrel
    by_cases hlt : k < m
    · have hes : (s.extract (k * 64) ((k + 1) * 64)).size = 64 := by rw [ByteArray.size_extract]; omega
      have hKr := hK.below hb h0
      have hc := fun wx hx => mix_ext st s k hes wx hx
      clear hq
      generalize hsx : mixTo st s.data.toList (k + 1) = sx at hc
      generalize mixTo st s.data.toList k = sk at hc hA
      have HX := hide hsx
      clear hsx
      obtain ⟨c0, c1, c2, c3, c4, c5, c6, c7⟩ := hA.eight
      have hi1 : (0 : Int) ≤ (k : Int) := by omega
      have hi2 : ((k : Int) + 1) * 64 ≤ (s.size : Int) := by omega
      have hi3 : (k : Int) * 64 ≤ ((k : Int) + 1) * 64 := by omega
      have hi4 : (0 : Int) ≤ (k : Int) * 64 := by omega
      have hi5 : (0 : Int) ≤ ((k : Int) + 1) * 64 := by omega
      have hw1 : IntKind.i64.wrap ((k : Int) * 64) = (k : Int) * 64 := by rw [IntKind.wrap_i64]; omega
      have hw2 : IntKind.i64.wrap ((k : Int) + 1) = (k : Int) + 1 := by rw [IntKind.wrap_i64]; omega
      have hw3 : IntKind.i64.wrap (((k : Int) + 1) * 64) = ((k : Int) + 1) * 64 := by rw [IntKind.wrap_i64]; omega
      have ht1 : ((k : Int) * 64).toNat = k * 64 := by omega
      have ht2 : (((k : Int) + 1) * 64).toNat = (k + 1) * 64 := by omega
      have hn1 : k * 64 ≤ (k + 1) * 64 := by omega
      have hn2 : (k + 1) * 64 ≤ s.size := by omega
      clear hs
      have HC := hide hc
      clear hc
      go_wp2_with fail
      go_region_with (first | (go_at_call 136; refine (HC.out wr.drew (show TabK wr.drew from hKr)).mono ?_; rintro e w' ⟨rfl, hb'⟩; have hV' : HasW w' w.heap.size 150 sk.l := (hA.drew.below hb' hA.lt); obtain ⟨d0, d1, d2, d3, d4, d5, d6, d7⟩ := hV'.eight; obtain ⟨f0, f1, f2, f3, f4, f5, f6, f7⟩ := hV'.eightFree))
      all_goals (
        go_wp2
        go_roundw
        case rel =>
          have hlA := hA.lt
          first
            | exact ⟨k + 1, by omega, by go_num, by rw [HX.out]; exact HasR.set8 hV' rfl _ _ _ _ _ _ _ _, HasR.other8 (hZ.drew.below hb' hZ.lt) (by omega) _ _ _ _ _ _ _ _, below_set8 (hb.drew.trans (hb'.mono (Nat.le_of_lt hlA))) (by omega) _ _ _ _ _ _ _ _⟩
            | ((repeat apply Exists.intro); exact ⟨⟨k + 1, by omega, by go_num, by rw [HX.out]; exact HasR.set8 hV' rfl _ _ _ _ _ _ _ _, HasR.other8 (hZ.drew.below hb' hZ.lt) (by omega) _ _ _ _ _ _ _ _, below_set8 (hb.drew.trans (hb'.mono (Nat.le_of_lt hlA))) (by omega) _ _ _ _ _ _ _ _⟩, rfl⟩)
        case measure => simp [intOf]; omega)
    · obtain rfl : k = m := by omega
      generalize hsv : mixTo st s.data.toList k = sv at hA
      have HSV := hide hsv
      clear hsv hq hs
      go_wp2_with (first
        | ((with_reducible refine load_row 150 w.heap.size sv.l 150 ?_ ?_ Tryz.underlying150 ?_ ?_ ?_); rfl; exact hA; rfl; kernel_rfl)
        | ((with_reducible refine store_row 150 (w.heap.size + 1) sv.l 150 _ ?_ ?_ hZ ?_ ?_ ?_); rfl; rfl; rfl; kernel_rfl; generalize hW4 : World.setCells _ _ _ _ = W4; have hR4 : HasW W4 (w.heap.size + 1) 150 sv.l := whole_words hZ hW4 rfl; have hb4 : Below w.heap.size w W4 := below_setCells' hb hW4 (by omega); clear hW4))
      exact bodyPost_ret (v := sv.v) (results_cell_row Tryz.results96 _ _ (w.heap.size + 1) 150 (rowW sv.l) (0, 0) _ rfl hR4 Tryz.underlying150 rfl (by kernel_rfl)) rfl ⟨by rw [HSV.out], hb4⟩
end Go.Proofs.YtdjpghgnjcmdnaaGreatDoor

/- A number's eight bytes: what the program's own 'appendNum' and 'Num' come to, and the document's. -/
namespace Go.Proofs.YtdjpghgnjcmdnaaGreatDoor
open Go.RowKit
/-- The k-th byte of a number, the greatest first. -/
def numB (x k : Nat) : UInt8 := UInt8.ofNat (x / 2 ^ (56 - 8 * k))
def num8 (x : Nat) : List UInt8 := (List.range 8).map (numB x)
theorem num8_len (x : Nat) : (num8 x).length = 8 := by simp [num8]
theorem numB_val (x k : Nat) : ((numB x k).toNat : Int) = (x : Int) / 2 ^ (56 - 8 * k) % 256 := by
  unfold numB
  rw [UInt8.toNat_ofNat']
  simp
theorem num8_step (l : List UInt8) (x k : Nat) (h : k < 8) : bytesV (l ++ (num8 x).take k) ++ [Value.int .u8 ((x : Int) / 2 ^ (56 - 8 * k) % 256)] = bytesV (l ++ (num8 x).take (k + 1)) := by
  have e : (num8 x).take (k + 1) = (num8 x).take k ++ [numB x k] := by
    rw [List.take_succ_eq_append_getElem (by rw [num8_len]; exact h)]
    simp [num8]
  rw [e, ← List.append_assoc, bytesV_app]
  simp [bytesV, numB_val]
set_option maxRecDepth 100000 in
set_option maxHeartbeats 400000 in
theorem appendNum_any (base : Nat) (v : Value) (n : Nat) (l : List UInt8) (x : Nat) (w : World) (_hx : x < 18446744073709551616) (hv : BRn w base 5 v n (bytesV l)) (hn : n ≤ 900000) (hbase : base ≤ w.heap.size) :
    Calls Tryz.prog 68 #[v, .int .u64 x] w fun e w' => ∃ g cap, e = .returned (.slice (some ⟨g, 0, none⟩) (n + 8) cap) ∧ BR w' base 5 g (n + 8) cap (bytesV (l ++ num8 x)) ∧ Below base w w' := by
  obtain ⟨i5, hE⟩ := elemB
  go_enter Tryz.func68, Tryz.ntmps68
  go_wp2
  go_loopw [0, 6] (fun t i wr => ∃ k : Nat, k ≤ 8 ∧ i = .int .i64 k ∧ BRn wr base 5 t (n + k) (bytesV (l ++ (num8 x).take k)) ∧ Below base w wr ∧ base ≤ wr.heap.size)
    (fun _ i _ => 8 - (intOf i).toNat)
  case atStart => exact ⟨0, by omega, rfl, by simpa using hv, Below.refl _ _, hbase⟩
  case round =>
    obtain ⟨k, hk, rfl, hr, hb, hbs⟩ := hrel
    by_cases hlt : k < 8
    · go_wp2_with (at_builtin; refine append_br 5 hE base _ (n + k) (bytesV (l ++ (num8 x).take k)) ⟨wr.heap.size, 0, none⟩ 1 1 [.int .u8 ((x : Int) / 2 ^ (56 - 8 * k) % 256)] rfl rfl (hr.alloc _) rfl (by omega) (news_one _ _) (one_u8 _) (by omega) (by simp; omega) ?_; intro g cap w' hb' hg hl hbel; rw [num8_step l x k hlt] at hb')
      go_roundw
      case rel => exact ⟨k + 1, by omega, by go_num, BRn.of hb', (hb.alloc hbs _).trans hbel, by have := hb'.lt; have := hb'.base; omega⟩
      case measure => simp [intOf]; omega
    · obtain rfl : k = 8 := by omega
      have e8 : (num8 x).take 8 = num8 x := List.take_of_length_le (by rw [num8_len]; omega)
      rw [e8] at hr
      rcases hr with ⟨_, h0, _⟩ | ⟨g, cap, hv', hr⟩
      · omega
      · go_wp2
        go_ret
        exact ⟨g, cap, ret_val hv', hr, hb⟩
/-- A number's 64 bits. -/
def u64of (n : Int) : Nat := (n % 18446744073709551616).toNat
theorem u64of_lt (n : Int) : u64of n < 18446744073709551616 := by unfold u64of; omega
theorem u64of_wrap (n : Int) : IntKind.u64.wrap n = ((u64of n : Nat) : Int) := by
  rw [IntKind.wrap_u64]; unfold u64of; omega
theorem u64of_nat (n : Nat) (h : n < 18446744073709551616) : u64of (n : Int) = n := by unfold u64of; omega
set_option maxRecDepth 100000 in
set_option maxHeartbeats 400000 in
theorem num_any (n : Int) (w : World) :
    Calls Tryz.prog 91 #[.int .i64 n] w fun e w' => e = .returned (.string ⟨(num8 (u64of n)).toArray⟩) ∧ Below w.heap.size w w' := by
  have hw := u64of_wrap n
  have hlt := u64of_lt n
  go_enter Tryz.func91, Tryz.ntmps91
  go_wp2_with fail
  refine (appendNum_any w.heap.size _ 0 [] (u64of n) w hlt (BRn.nil _ _ _) (by omega) (Nat.le_refl _)).mono ?_
  rintro e w1 ⟨g, cap, rfl, hr, hb⟩
  go_wp2_with ((with_reducible refine conv_out g (0 + 8) cap (num8 (u64of n)) ?_ hr ?_); rfl)
  go_ret
  exact ⟨rfl, hb⟩
/-- The bytes behind k divisions. -/
def numT (x k : Nat) : List UInt8 := (num8 x).drop (8 - k)
theorem numT_len (x k : Nat) : (numT x k).length ≤ 8 := by simp [numT, num8]
theorem numT_step (x k : Nat) (h : k < 8) : UInt8.ofNat (x / 256 ^ k) :: numT x k = numT x (k + 1) := by
  unfold numT
  rw [List.drop_eq_getElem_cons (i := 8 - (k + 1)) (by rw [num8_len]; omega)]
  have e : 8 - (k + 1) + 1 = 8 - k := by omega
  rw [e]
  congr 1
  simp only [num8, List.getElem_map, List.getElem_range, numB]
  have e2 : 56 - 8 * (8 - (k + 1)) = 8 * k := by omega
  rw [e2, Nat.pow_mul]
theorem numT_full (x : Nat) : numT x 8 = num8 x := rfl
end Go.Proofs.YtdjpghgnjcmdnaaGreatDoor

/- What is left of a text, filled up to whole blocks: what the program's own 'ending' comes to. -/
namespace Go.Proofs.YtdjpghgnjcmdnaaGreatDoor
open Go.RowKit
/-- How many noughts fill a text up. -/
def padZ (n : Nat) : Nat := (119 - n % 64) % 64
/-- A text with what fills it up; x: the size in bits that is told. -/
def pad (l : List UInt8) (x : Nat) : List UInt8 := l ++ 128 :: (List.replicate (padZ l.length) 0 ++ num8 x)
def slen : Value → Nat
  | .slice _ n _ => n
  | _ => 0
theorem padZ_stop (n z : Nat) (h : z < padZ n) : (n + 1 + z) % 64 ≠ 56 := by unfold padZ at h; omega
theorem padZ_end (n : Nat) : (n + 1 + padZ n) % 64 = 56 := by unfold padZ; omega
theorem padZ_le (n : Nat) : padZ n ≤ 63 := by unfold padZ; omega
theorem bytes_snoc0 (l : List UInt8) (z : Nat) : bytesV (l ++ 128 :: List.replicate z 0) ++ [Value.int .u8 0] = bytesV (l ++ 128 :: List.replicate (z + 1) 0) := by
  rw [List.replicate_succ']
  simp [bytesV]
theorem bytes_snoc80 (l : List UInt8) : bytesV l ++ [Value.int .u8 128] = bytesV (l ++ 128 :: List.replicate 0 0) := by
  simp [bytesV]
set_option maxRecDepth 100000 in
set_option maxHeartbeats 400000 in
theorem ending_any (s : ByteArray) (x : Nat) (w : World) (hs : s.size ≤ 800000) (hx : x ≤ 1000000) :
    Calls Tryz.prog 98 #[.string s, .int .u64 x] w fun e w' => e = .returned (.string ⟨(pad s.data.toList (8 * x)).toArray⟩) ∧ Below w.heap.size w w' := by
  obtain ⟨i5, hE⟩ := elemB
  have hpz := padZ_le s.size
  go_enter Tryz.func98, Tryz.ntmps98
  go_wp2_with (first
    | ((with_reducible refine conv_in s ?_ ?_); rfl; intro cap w1 hr1 hg1 hz1)
    | (at_builtin; refine append_br 5 hE w.heap.size _ s.size (bytesV s.data.toList) ⟨w.heap.size + 1, 0, none⟩ 1 1 [.int .u8 128] rfl rfl (BRn.of (hr1.alloc _)) rfl (by omega) (news_blk (HasR.new' hz1 5 #[.int .u8 128])) (one_u8 _) (by omega) (by simp; omega) ?_; intro g cap w2 hr2 hg2 hl2 hb2; rw [bytes_snoc80] at hr2))
  have hB2 : Below w.heap.size w w2 := (((Below.refl _ w).grown hg1 (Nat.le_refl _) (by intro k hk; simp at hk)).alloc (by omega) _).trans hb2
  have hsz2 : w.heap.size ≤ w2.heap.size := hB2.size
  clear hr1 hg1 hg2 hl2 hb2
  go_loopw [5] (fun t wr => ∃ z g cap, z ≤ padZ s.size ∧ t = .slice (some ⟨g, 0, none⟩) (s.size + 1 + z) cap ∧ BR wr w.heap.size 5 g (s.size + 1 + z) cap (bytesV (s.data.toList ++ 128 :: List.replicate z 0)) ∧ Below w.heap.size w wr)
    (fun t _ => s.size + 100 - slen t)
  case atStart => exact ⟨0, g, cap, by omega, rfl, hr2, hB2⟩
  case round =>
    obtain ⟨z, g, cap, hz, rfl, hr, hb⟩ := hrel
    have hbs := hb.size
    by_cases hlt : z < padZ s.size
    · have hne := padZ_stop s.size z hlt
      go_wp2_with (at_builtin; refine append_br 5 hE w.heap.size _ (s.size + 1 + z) (bytesV (s.data.toList ++ 128 :: List.replicate z 0)) ⟨wr.heap.size, 0, none⟩ 1 1 [.int .u8 0] rfl rfl ((BRn.of hr).alloc _) rfl (by omega) (news_one _ _) (one_u8 _) (by omega) (by simp; omega) ?_; intro g cap w' hb' hg hl hbel; rw [bytes_snoc0] at hb')
      go_roundw
      case rel => exact ⟨z + 1, _, _, by omega, rfl, hb', (hb.alloc hbs _).trans hbel⟩
      case measure => simp [slen]; omega
    · obtain rfl : z = padZ s.size := by omega
      have hend := padZ_end s.size
      go_wp2_with fail
      rw [show (8 * (x : Int)) = ((8 * x : Nat) : Int) from by omega]
      refine (appendNum_any w.heap.size _ (s.size + 1 + padZ s.size) (s.data.toList ++ 128 :: List.replicate (padZ s.size) 0) (8 * x) wr (by omega) (BRn.of hr) (by omega) hbs).mono ?_
      rintro e w3 ⟨g3, cap3, rfl, hr3, hb3⟩
      go_wp2_with ((with_reducible refine conv_out g3 (s.size + 1 + padZ s.size + 8) cap3 (s.data.toList ++ 128 :: List.replicate (padZ s.size) 0 ++ num8 (8 * x)) ?_ hr3 ?_); rfl)
      go_ret
      exact ⟨ret_val (by show Value.string ⟨(s.data.toList ++ 128 :: (List.replicate (padZ s.size) 0 ++ num8 (8 * x))).toArray⟩ = _; rfl), hb.trans hb3⟩
end Go.Proofs.YtdjpghgnjcmdnaaGreatDoor

/- The sum of a text: what the program's own 'Sum' comes to. -/
namespace Go.Proofs.YtdjpghgnjcmdnaaGreatDoor
open Go.RowKit
attribute [local go_sem] size_setCells
attribute [local go_sem ↓] Go.wp_at_zero Go.wp_at_succ
theorem bcell {W w1 : World} (hb : Below W.heap.size W w1) : (∀ b o, b < W.heap.size → w1.cell? ⟨b, o, none⟩ = W.cell? ⟨b, o, none⟩) ∧ (∀ b o, b < W.heap.size → w1.frozen? ⟨b, o, none⟩ = W.frozen? ⟨b, o, none⟩) :=
  ⟨fun b o h => hb.cell (p := ⟨b, o, none⟩) h, fun b o h => hb.frozen (p := ⟨b, o, none⟩) h⟩
/-- Eight noughts as cells. -/
def z8 : Array Value := #[.int .u32 0, .int .u32 0, .int .u32 0, .int .u32 0, .int .u32 0, .int .u32 0, .int .u32 0, .int .u32 0]
theorem HasR.eightZ {w : World} {B : Nat} {t : TypeId} (h : HasR w B t z8) : (w.cell? ⟨B, 0, none⟩ = some (.int .u32 0) ∧ w.cell? ⟨B, 1, none⟩ = some (.int .u32 0) ∧ w.cell? ⟨B, 2, none⟩ = some (.int .u32 0) ∧ w.cell? ⟨B, 3, none⟩ = some (.int .u32 0) ∧ w.cell? ⟨B, 4, none⟩ = some (.int .u32 0) ∧ w.cell? ⟨B, 5, none⟩ = some (.int .u32 0) ∧ w.cell? ⟨B, 6, none⟩ = some (.int .u32 0) ∧ w.cell? ⟨B, 7, none⟩ = some (.int .u32 0)) ∧ w.frozen? ⟨B, 0, none⟩ = false ∧ w.frozen? ⟨B, 1, none⟩ = false ∧ w.frozen? ⟨B, 2, none⟩ = false ∧ w.frozen? ⟨B, 3, none⟩ = false ∧ w.frozen? ⟨B, 4, none⟩ = false ∧ w.frozen? ⟨B, 5, none⟩ = false ∧ w.frozen? ⟨B, 6, none⟩ = false ∧ w.frozen? ⟨B, 7, none⟩ = false :=
  ⟨⟨HasR.cell h 0, HasR.cell h 1, HasR.cell h 2, HasR.cell h 3, HasR.cell h 4, HasR.cell h 5, HasR.cell h 6, HasR.cell h 7⟩, h.free 0, h.free 1, h.free 2, h.free 3, h.free 4, h.free 5, h.free 6, h.free 7⟩
theorem pad_len (l : List UInt8) (x : Nat) : (pad l x).length = 64 * ((l.length + 9 + padZ l.length) / 64) := by
  have := padZ_end l.length
  simp only [pad, List.length_append, List.length_cons, List.length_replicate, num8_len]
  omega
theorem pad_few (l : List UInt8) (x : Nat) : (pad l x).length ≤ l.length + 72 := by
  have := padZ_le l.length
  simp only [pad, List.length_append, List.length_cons, List.length_replicate, num8_len]
  omega
/-- A word's four bytes, the greatest first. -/
def bytes4 (x : BitVec 32) : List UInt8 := [UInt8.ofNat (x.toNat / 16777216), UInt8.ofNat (x.toNat / 65536), UInt8.ofNat (x.toNat / 256), UInt8.ofNat x.toNat]
def stTo (s : St) (k : Nat) : List UInt8 := (s.l.take k).flatMap bytes4
/-- A state's bytes. -/
def stBytes (s : St) : List UInt8 := s.l.flatMap bytes4
theorem stTo_len (s : St) (k : Nat) (h : k ≤ 8) : (stTo s k).length = 4 * k := by
  have e : ∀ l : List (BitVec 32), (l.flatMap bytes4).length = 4 * l.length := by
    intro l
    induction l with
    | nil => rfl
    | cons x r ih => simp [List.flatMap_cons, ih, bytes4]; omega
  unfold stTo
  rw [e, List.length_take]
  have : s.l.length = 8 := rfl
  omega
theorem bytes4_vals (x : BitVec 32) : bytesV (bytes4 x) = [.int .u8 (N x / 16777216 % 256), .int .u8 (N x / 65536 % 256), .int .u8 (N x / 256 % 256), .int .u8 (N x % 256)] := by
  simp [bytesV, bytes4, N]
theorem stTo_step (s : St) (k : Nat) (h : k < 8) : bytesV (stTo s k) ++ [.int .u8 (N (wd s.l k) / 16777216 % 256), .int .u8 (N (wd s.l k) / 65536 % 256), .int .u8 (N (wd s.l k) / 256 % 256), .int .u8 (N (wd s.l k) % 256)] = bytesV (stTo s (k + 1)) := by
  have hl : s.l.length = 8 := rfl
  have e : s.l.take (k + 1) = s.l.take k ++ [wd s.l k] := by
    rw [List.take_succ_eq_append_getElem (by omega)]
    simp [wd, hl, h]
  rw [← bytes4_vals]
  unfold stTo
  rw [e, List.flatMap_append, bytesV_app]
  simp
theorem four_u8 (a b c d : Int) : ∀ u ∈ [Value.int .u8 a, .int .u8 b, .int .u8 c, .int .u8 d], u.oneCell' = true := by
  intro u hu
  simp at hu
  rcases hu with rfl | rfl | rfl | rfl <;> rfl
/-- Thirty-two noughts as cells. -/
def zb32 : Array Value := #[.int .u8 0, .int .u8 0, .int .u8 0, .int .u8 0, .int .u8 0, .int .u8 0, .int .u8 0, .int .u8 0, .int .u8 0, .int .u8 0, .int .u8 0, .int .u8 0, .int .u8 0, .int .u8 0, .int .u8 0, .int .u8 0, .int .u8 0, .int .u8 0, .int .u8 0, .int .u8 0, .int .u8 0, .int .u8 0, .int .u8 0, .int .u8 0, .int .u8 0, .int .u8 0, .int .u8 0, .int .u8 0, .int .u8 0, .int .u8 0, .int .u8 0, .int .u8 0]
theorem make32 (w : World) : (Instr.makeSlice 38 (.int .i64 0) (.int .i64 32)).run Tryz.prog w = .ok (.slice (some ⟨w.heap.size, 0, none⟩) 0 32) (w.alloc (.cells zb32 5)) := by kernel_rfl
theorem index8 (s : St) : ∀ (k : Nat) (_h : k < 8) (w : World), (Instr.index 150 (.agg (rowW s.l)) (.int .i64 (k : Int))).run Tryz.prog w = .ok (.int .u32 (N (wd s.l k))) w
  | 0, _ => fun _ => by kernel_rfl
  | 1, _ => fun _ => by kernel_rfl
  | 2, _ => fun _ => by kernel_rfl
  | 3, _ => fun _ => by kernel_rfl
  | 4, _ => fun _ => by kernel_rfl
  | 5, _ => fun _ => by kernel_rfl
  | 6, _ => fun _ => by kernel_rfl
  | 7, _ => fun _ => by kernel_rfl
  | n + 8, h => absurd h (by omega)
theorem mixTo_pre (st : St) (A B : List UInt8) (k : Nat) (h : 64 * k ≤ A.length) : mixTo st (A ++ B) k = mixTo st A k := by
  induction k with
  | zero => rfl
  | succ k ih =>
    have e : ((A ++ B).drop (64 * k)).take 64 = (A.drop (64 * k)).take 64 := by
      rw [List.drop_append_of_le_length (by omega), List.take_append_of_le_length (by simp; omega)]
    show mixB (mixTo st (A ++ B) k) _ = mixB (mixTo st A k) _
    rw [ih (by omega), e]
theorem mixTo_app (st : St) (A B : List UInt8) (a b : Nat) (h : A.length = 64 * a) : mixTo st (A ++ B) (a + b) = mixTo (mixTo st A a) B b := by
  induction b with
  | zero => exact mixTo_pre st A B a (by omega)
  | succ b ih =>
    have e : ((A ++ B).drop (64 * (a + b))).take 64 = (B.drop (64 * b)).take 64 := by
      have e1 : 64 * (a + b) = A.length + 64 * b := by omega
      rw [e1, List.drop_append]
      have e2 : A.drop (A.length + 64 * b) = [] := List.drop_of_length_le (by omega)
      have e3 : A.length + 64 * b - A.length = 64 * b := by omega
      rw [e2, e3, List.nil_append]
    show mixB (mixTo st (A ++ B) (a + b)) (((A ++ B).drop (64 * (a + b))).take 64) = mixB (mixTo (mixTo st A a) B b) ((B.drop (64 * b)).take 64)
    rw [ih, e]
/-- The sum of a text. -/
def sha (l : List UInt8) : List UInt8 := stBytes (mixTo st0 (pad l (8 * l.length)) ((pad l (8 * l.length)).length / 64))
theorem pad_split (l : List UInt8) (x m : Nat) (h1 : 64 * m ≤ l.length) : pad l x = l.take (64 * m) ++ pad (l.drop (64 * m)) x := by
  have e : padZ (l.drop (64 * m)).length = padZ l.length := by
    rw [List.length_drop]; unfold padZ; omega
  unfold pad
  rw [e, ← List.append_assoc, List.take_append_drop]
theorem sha_split (l : List UInt8) (m : Nat) (h1 : 64 * m ≤ l.length) :
    stBytes (mixTo (mixTo st0 (l.take (64 * m)) m) (pad (l.drop (64 * m)) (8 * l.length)) ((pad (l.drop (64 * m)) (8 * l.length)).length / 64)) = sha l := by
  unfold sha
  rw [pad_split l (8 * l.length) m h1]
  have hl : (l.take (64 * m)).length = 64 * m := by rw [List.length_take]; omega
  have e : (l.take (64 * m) ++ pad (l.drop (64 * m)) (8 * l.length)).length / 64 = m + (pad (l.drop (64 * m)) (8 * l.length)).length / 64 := by
    rw [List.length_append, hl]; omega
  rw [e, mixTo_app _ _ _ _ _ hl]
theorem mixAll_ext (st : St) (s : ByteArray) (m : Nat) (hm : m ≤ 100000) (hs : s.size = 64 * m) (w : World) (hK : TabK w) :
    Calls Tryz.prog 96 #[.agg #[.int .u32 (N st.a), .int .u32 (N st.b), .int .u32 (N st.c), .int .u32 (N st.d), .int .u32 (N st.e), .int .u32 (N st.f), .int .u32 (N st.g), .int .u32 (N st.h)], .string s] w fun e w' =>
     e = .returned (.agg #[.int .u32 (N (mixTo st s.data.toList m).a), .int .u32 (N (mixTo st s.data.toList m).b), .int .u32 (N (mixTo st s.data.toList m).c), .int .u32 (N (mixTo st s.data.toList m).d), .int .u32 (N (mixTo st s.data.toList m).e), .int .u32 (N (mixTo st s.data.toList m).f), .int .u32 (N (mixTo st s.data.toList m).g), .int .u32 (N (mixTo st s.data.toList m).h)]) ∧ Below w.heap.size w w' := mixAll_any st s m hs hm w hK
set_option maxRecDepth 100000 in
set_option maxHeartbeats 1000000 in
theorem sum_any (s : ByteArray) (hs : s.size ≤ 800000) (w : World) (hK : TabK w) :
    Calls Tryz.prog 63 #[.string s] w fun e w' => e = .returned (.string ⟨(sha s.data.toList).toArray⟩) ∧ Below w.heap.size w w' := by
  have h0 := hK.lt
  obtain ⟨m, hm⟩ : ∃ m, m = s.size / 64 := ⟨_, rfl⟩
  have hm1 : 64 * m ≤ s.size := by omega
  have hm2 : s.size < 64 * m + 64 := by omega
  have hw : ((s.size : Int) - (s.size : Int) % 64) = ((64 * m : Nat) : Int) := by omega
  have hes : (s.extract 0 (64 * m)).size = 64 * m := by rw [ByteArray.size_extract]; omega
  clear hm
  have hi1 : (0 : Int) ≤ 64 * (m : Int) := by omega
  have hi2 : 64 * (m : Int) ≤ (s.size : Int) := by omega
  have hc := fun wx hx => mixAll_ext st0 (s.extract 0 (64 * m)) m (by omega) hes wx hx
  generalize hs1 : mixTo st0 (s.extract 0 (64 * m)).data.toList m = s1 at hc
  have HS1 := hide hs1
  clear hs1
  have HC := hide hc
  clear hc
  have hrs : (s.extract (64 * m) s.size).size ≤ 64 := by rw [ByteArray.size_extract]; omega
  have hcE := fun wx => ending_any (s.extract (64 * m) s.size) s.size wx (by omega) (by omega)
  generalize hpl : pad (s.extract (64 * m) s.size).data.toList (8 * s.size) = pl at hcE
  have hpl1 : pl.length = 64 * (pl.length / 64) := by rw [← hpl, pad_len]; omega
  have hpl2 : pl.length ≤ 200 := by
    rw [← hpl]
    have h1 := pad_few (s.extract (64 * m) s.size).data.toList (8 * s.size)
    have h2 : (s.extract (64 * m) s.size).data.toList.length = (s.extract (64 * m) s.size).size := rfl
    omega
  have HPL := hide hpl
  clear hpl
  generalize heb : (⟨pl.toArray⟩ : ByteArray) = eb at hcE
  have hebs : eb.size = pl.length := by rw [← heb]; rfl
  have hebl : eb.data.toList = pl := by rw [← heb]
  have hc2 := fun wx hx => mixAll_ext s1 eb (pl.length / 64) (by omega) (by omega) wx hx
  rw [hebl] at hc2
  generalize hs2 : mixTo s1 pl (pl.length / 64) = s2 at hc2
  have HS2 := hide hs2
  have HC2 := hide hc2
  have HCE := hide hcE
  clear hs2 hc2 hcE heb hebs hebl hpl1 hpl2 hrs
  go_enter Tryz.func63, Tryz.ntmps63
  go_wp2_with fail
  go_cut [4] (fun p wr => ∃ B, p = .pointer (some ⟨B, 0, none⟩) ∧ HasW wr B 150 s1.l ∧ Below w.heap.size w wr ∧ w.heap.size ≤ B)
  case first =>
    go_region_with (first
      | (go_at_call 97; refine (firstState_any _).mono ?_; rintro e w1 ⟨rfl, hb1⟩; have hB1 : Below w.heap.size w w1 := (by first | exact (Below.refl _ w).drew.trans hb1 | exact (((Below.refl _ w).alloc (Nat.le_refl _) _).drew).trans (hb1.mono (by simp))); (try (have hZ1 : HasR w1 w.heap.size 150 z8 := (HasR.new w 150 z8).drew.below hb1 (by simp))))
      | (go_at_call 96; refine (HC.out _ ?_).mono ?_; (first | exact hK.below hB1 h0 | exact hK.below (hB1.alloc hB1.size _) h0); rintro e w2 ⟨rfl, hb2⟩; have hB2 : Below w.heap.size w w2 := (by first | exact hB1.trans (hb2.mono hB1.size) | exact (hB1.alloc hB1.size _).trans (hb2.mono (by have := hB1.size; simp; omega))); (try (have hZ2 : HasR w2 w.heap.size 150 z8 := hZ1.below hb2 hZ1.lt; obtain ⟨⟨d0, d1, d2, d3, d4, d5, d6, d7⟩, f0, f1, f2, f3, f4, f5, f6, f7⟩ := hZ2.eightZ)); (try (have hZ2 : HasR w2 w1.heap.size 150 z8 := (HasR.new w1 150 z8).below hb2 (by simp); obtain ⟨⟨d0, d1, d2, d3, d4, d5, d6, d7⟩, f0, f1, f2, f3, f4, f5, f6, f7⟩ := hZ2.eightZ))))
    · go_wp2
      go_meet
      case rel => exact ⟨_, rfl, HasR.new w2 150 _, hB2.alloc hB2.size _, hB2.size⟩
    · go_wp2
      go_meet
      case rel => exact ⟨_, rfl, HasR.set8 hZ2 rfl _ _ _ _ _ _ _ _, below_set8 hB2 hB1.size _ _ _ _ _ _ _ _, hB1.size⟩
    · go_wp2
      go_meet
      case rel => exact ⟨_, rfl, HasR.set8 hZ2 rfl _ _ _ _ _ _ _ _, below_set8 hB2 (Nat.le_refl _) _ _ _ _ _ _ _ _, Nat.le_refl _⟩
  case rest =>
    obtain ⟨B, rfl, hV, hb, hB⟩ := hcut
    have hKc := hK.below hb h0
    have hBl := hV.lt
    obtain ⟨c0, c1, c2, c3, c4, c5, c6, c7⟩ := hV.eight
    clear hi1 hes
    go_wp2_with fail
    go_cut [4] (fun p wr => p = .pointer (some ⟨B, 0, none⟩) ∧ HasW wr B 150 s2.l ∧ Below w.heap.size w wr)
    case first =>
      go_region_with (first
        | (go_at_call 98; refine (HCE.out _).mono ?_; rintro e w3 ⟨rfl, hb3⟩; have hV3 : HasW w3 B 150 s1.l := hV.drew.below hb3 hV.lt; have hK3 : TabK w3 := TabK.below (w := wc.drew) hKc hb3 (by have := hB; simp; omega); have hb3' : Below w.heap.size w w3 := hb.drew.trans (hb3.mono hb.size); obtain ⟨d0, d1, d2, d3, d4, d5, d6, d7⟩ := hV3.eight)
        | (go_at_call 96; refine (HC2.out _ hK3).mono ?_; rintro e w4 ⟨rfl, hb4⟩; have hV4 : HasW w4 B 150 s1.l := hV3.below hb4 hV3.lt; have hb4' : Below w.heap.size w w4 := hb3'.trans (hb4.mono hb3'.size); obtain ⟨e0, e1, e2, e3, e4, e5, e6, e7⟩ := hV4.eight; obtain ⟨f0, f1, f2, f3, f4, f5, f6, f7⟩ := hV4.eightFree))
      all_goals (
        go_wp2
        go_meet
        case rel => exact ⟨rfl, HasR.set8 hV4 rfl _ _ _ _ _ _ _ _, below_set8 hb4' hB _ _ _ _ _ _ _ _⟩)
    case rest =>
      obtain ⟨rfl, hV2, hb2⟩ := hcut
      clear c0 c1 c2 c3 c4 c5 c6 c7 hV hb hKc hBl
      obtain ⟨i5, hE⟩ := elemB
      have hmk := make32
      go_wp2_with ((with_reducible refine load_row 150 B s2.l 150 ?_ ?_ Tryz.underlying150 ?_ ?_ ?_); rfl; exact hV2.alloc _; rfl; kernel_rfl)
      have hB0 : BR (wc.alloc (.cells zb32 5)) w.heap.size 5 wc.heap.size 0 32 (bytesV (stTo s2 0)) := ⟨rfl, hb2.size, by omega, _, _, heap_alloc_new wc _, rfl, rfl, .inl (Nat.le_refl _)⟩
      have hb2' : Below w.heap.size w (wc.alloc (.cells zb32 5)) := hb2.alloc hb2.size _
      clear hmk hV2
      go_loopw [5, 30] (fun t i wr => ∃ k : Nat, k ≤ 8 ∧ i = .int .i64 k ∧ BRn wr w.heap.size 5 t (4 * k) (bytesV (stTo s2 k)) ∧ Below w.heap.size w wr)
        (fun _ i _ => 8 - (intOf i).toNat)
      case atStart => exact ⟨0, by omega, rfl, BRn.of hB0, hb2'⟩
      case round =>
        clear hB0 hb2' hb2
        obtain ⟨k, hk, rfl, hr, hb⟩ := hrel
        have hbs := hb.size
        by_cases hlt : k < 8
        · have hix := index8 s2 k hlt
          have hst := hide (stTo_step s2 k hlt)
          generalize wd s2.l k = x at hix hst
          go_wp2_with (at_builtin; (refine append_br 5 hE w.heap.size _ (4 * k) (bytesV (stTo s2 k)) ⟨wr.heap.size, 0, none⟩ 4 4 [.int .u8 (N x / 16777216 % 256), .int .u8 (N x / 65536 % 256), .int .u8 (N x / 256 % 256), .int .u8 (N x % 256)] rfl rfl (hr.alloc _) rfl (by omega) (news_blk (HasR.new wr 5 _)) (four_u8 _ _ _ _) (by omega) (by simp; omega) ?_); intro g cap w' hb' hg hl hbel; rw [hst.out] at hb')
          go_roundw
          case rel => exact ⟨k + 1, by omega, by go_num, BRn.of hb', (hb.alloc hbs _).trans hbel⟩
          case measure => simp [intOf]; omega
        · obtain rfl : k = 8 := by omega
          rcases hr with ⟨_, h0', _⟩ | ⟨g, cap, rfl, hr⟩
          · omega
          · go_wp2_with ((with_reducible refine conv_out g (4 * 8) cap (stTo s2 8) ?_ hr ?_); rfl)
            go_ret
            have hfin : stTo s2 8 = sha s.data.toList := by
              have e1 : (s.extract 0 (64 * m)).data.toList = s.data.toList.take (64 * m) := by rw [Lib.extract_data]; rfl
              have e2 : (s.extract (64 * m) s.size).data.toList = s.data.toList.drop (64 * m) := by
                rw [Lib.extract_data, List.take_of_length_le]
                rw [List.length_drop]; exact Nat.le_refl _
              rw [← sha_split s.data.toList m hm1, ← e1, ← e2, HS1.out]
              have e3 : pad (s.extract (64 * m) s.size).data.toList (8 * s.data.toList.length) = pl := HPL.out
              rw [e3, HS2.out]
              rfl
            exact ⟨ret_val (by show Value.string ⟨(stTo s2 8).toArray⟩ = _; rw [hfin]), hb⟩
end Go.Proofs.YtdjpghgnjcmdnaaGreatDoor
