/- The sixteen words ahead of the rounds: what the program's own functions come to, for every key, number and nonce. -/
import Derived.Test.YteckhejfmbiamaaDoorDouble
import Derived.Deep.RegionLaw
namespace Go.Proofs.YteckhejfmbiamaaDoor
open Go.RowKit
attribute [local go_sem] N_or N_byte N_shl24 N_shl16 N_shl8
attribute [local go_sem ↓] Go.wp_at_zero Go.wp_at_succ
theorem lword_ext (s : ByteArray) (k : Nat) (h0 : 0 < (s.extract (4 * k) (4 * k + 4)).size) (h1 : 1 < (s.extract (4 * k) (4 * k + 4)).size) (h2 : 2 < (s.extract (4 * k) (4 * k + 4)).size) (h3 : 3 < (s.extract (4 * k) (4 * k + 4)).size) :
    bw ((s.extract (4 * k) (4 * k + 4))[0]'h0) ||| bw ((s.extract (4 * k) (4 * k + 4))[1]'h1) <<< 8 ||| bw ((s.extract (4 * k) (4 * k + 4))[2]'h2) <<< 16 ||| bw ((s.extract (4 * k) (4 * k + 4))[3]'h3) <<< 24 = lwordAt s.data.toList k := by
  rw [ext_at, ext_at, ext_at, ext_at]; rfl
set_option maxRecDepth 100000 in
set_option maxHeartbeats 400000 in
theorem wordAt_any (s : ByteArray) (k : Nat) (hk : 4 * k + 4 ≤ s.size) (hs : s.size ≤ 100) (w : World) :
    Calls Tryd.prog 71 #[.string s, .int .i64 k] w fun e w' => e = .returned (.int .u32 (N (lwordAt s.data.toList k))) ∧ w' = w.drew := by
  have hbs : (s.extract (4 * k) (4 * k + 4)).size = 4 := by simp; omega
  have he := hide (lword_ext s k (by omega) (by omega) (by omega) (by omega))
  go_enter Tryd.func71, Tryd.ntmps71
  go_wp2
  go_region
  go_wp2
  go_ret
  exact ⟨ret_val (by rw [← he.out]; rfl), rfl⟩
/-- The first k of sixteen words, the others nought. -/
def part (F : List (BitVec 32)) (k : Nat) : List (BitVec 32) := F.take k ++ List.replicate (16 - k) 0
theorem part_len (F : List (BitVec 32)) (k : Nat) (h : F.length = 16) (hk : k ≤ 16) : (part F k).length = 16 := by simp [part, h]; omega
theorem part_succ (F : List (BitVec 32)) (k : Nat) (h : F.length = 16) (hk : k < 16) : (part F k).set k (wd F k) = part F (k + 1) := by
  unfold part
  have e : F.take (k + 1) = F.take k ++ [wd F k] := by
    rw [List.take_succ_eq_append_getElem (by omega)]
    simp [wd, h, hk]
  have e2 : 16 - k = (16 - (k + 1)) + 1 := by omega
  rw [e, List.set_append_right _ _ (by simp; omega), e2, List.replicate_succ]
  have e3 : k - (F.take k).length = 0 := by simp; omega
  rw [e3]
  simp
theorem part_full (F : List (BitVec 32)) (h : F.length = 16) : part F 16 = F := by
  rw [part, List.take_of_length_le (by omega)]; simp
theorem first_sigma (key : List UInt8) (n : BitVec 32) (nonce : List UInt8) (k : Nat) (h : k < 4) : wd (first key n nonce) k = lwordAt sigma k := by
  match k, h with
  | 0, _ => rfl
  | 1, _ => rfl
  | 2, _ => rfl
  | 3, _ => rfl
theorem first_key (key : List UInt8) (n : BitVec 32) (nonce : List UInt8) (k : Nat) (h : k < 8) : wd (first key n nonce) (4 + k) = lwordAt key k := by
  match k, h with
  | 0, _ => rfl
  | 1, _ => rfl
  | 2, _ => rfl
  | 3, _ => rfl
  | 4, _ => rfl
  | 5, _ => rfl
  | 6, _ => rfl
  | 7, _ => rfl
theorem first_num (key : List UInt8) (n : BitVec 32) (nonce : List UInt8) : wd (first key n nonce) 12 = n := rfl
theorem first_nonce (key : List UInt8) (n : BitVec 32) (nonce : List UInt8) (k : Nat) (h : k < 3) : wd (first key n nonce) (13 + k) = lwordAt nonce k := by
  match k, h with
  | 0, _ => rfl
  | 1, _ => rfl
  | 2, _ => rfl
/-- Sixteen noughts. -/
def z16 : List (BitVec 32) := List.replicate 16 0
theorem z16_len : z16.length = 16 := rfl
theorem zeros16 : (#[.int .u32 0, .int .u32 0, .int .u32 0, .int .u32 0, .int .u32 0, .int .u32 0, .int .u32 0, .int .u32 0, .int .u32 0, .int .u32 0, .int .u32 0, .int .u32 0, .int .u32 0, .int .u32 0, .int .u32 0, .int .u32 0] : Array Value) = rowW z16 := rfl
theorem part_zero (F : List (BitVec 32)) : part F 0 = z16 := by simp [part, z16]
theorem sigma_any (k : Nat) (hk : k < 4) (w : World) :
    Calls Tryd.prog 71 #[.string ⟨#[101, 120, 112, 97, 110, 100, 32, 51, 50, 45, 98, 121, 116, 101, 32, 107]⟩, .int .i64 k] w fun e w' => e = .returned (.int .u32 (N (lwordAt sigma k))) ∧ w' = w.drew :=
  wordAt_any ⟨#[101, 120, 112, 97, 110, 100, 32, 51, 50, 45, 98, 121, 116, 101, 32, 107]⟩ k (by show 4 * k + 4 ≤ 16; omega) (by show 16 ≤ 100; omega) w
set_option maxRecDepth 100000 in
set_option maxHeartbeats 1000000 in
theorem firstWords_any (key nonce : ByteArray) (n : BitVec 32) (hk : key.size = 32) (hn : nonce.size = 12) (w : World) :
    Calls Tryd.prog 52 #[.string key, .int .u32 (N n), .string nonce] w fun e w' => e = .returned (.agg (rowW (first key.data.toList n nonce.data.toList))) ∧ Below w.heap.size w w' := by
  have q1 := hide (fun k (h : k < 4) wx => sigma_any k h wx)
  have q2 := hide (fun k (h : k < 8) wx => wordAt_any key k (by omega) (by omega) wx)
  have q3 := hide (fun k (h : k < 3) wx => wordAt_any nonce k (by omega) (by omega) wx)
  have p1 := hide (fun k h => first_sigma key.data.toList n nonce.data.toList k h)
  have p2 := hide (fun k h => first_key key.data.toList n nonce.data.toList k h)
  have p3 := hide (fun k h => first_nonce key.data.toList n nonce.data.toList k h)
  have p4 := hide (first_num key.data.toList n nonce.data.toList)
  have lF := first_len key.data.toList n nonce.data.toList
  generalize first key.data.toList n nonce.data.toList = F at p1 p2 p3 p4 lF ⊢
  go_enter Tryd.func52, Tryd.ntmps52
  go_wp2
  go_loopw [11] (fun i wr => ∃ k : Nat, k ≤ 4 ∧ i = .int .i64 k ∧ HasW wr (w.heap.size + 1) 81 (part F k) ∧ HasW wr w.heap.size 81 z16 ∧ Below w.heap.size w wr)
     (fun i _ => 4 - (intOf i).toNat)
  case atStart =>
    rw [zeros16]
    exact ⟨0, by omega, rfl, by rw [part_zero]; exact HasR.new2 _ _ _ _, (HasR.new w 81 (rowW z16)).alloc _, ((Below.refl _ _).alloc (Nat.le_refl _) _).alloc (by simp) _⟩
  case round =>
    obtain ⟨k, hk', rfl, h1, h0, hb⟩ := hrel
    by_cases hlt : k < 4
    · have i1 : (k : Int) < 16 := by omega
      have HF := hide (h1.drew.free k)
      have HC := hide (h1.drew.cell k (by rw [part_len F k lF (by omega)]; omega))
      go_wp2_with (go_at_call 71; refine (q1.out k hlt _).mono ?_; rintro e w1 ⟨rfl, rfl⟩; have hf := HF.out; have hc := HC.out)
      go_roundw
      case rel => exact ⟨k + 1, by omega, by go_num, by rw [← part_succ F k lF (by omega), p1.out k hlt]; exact h1.drew.set k _, h0.drew.other _ (by simp) _, hb.drew.setCell (by simp) _⟩
      case measure => simp [intOf]; omega
    · obtain rfl : k = 4 := by omega
      go_wp2
      go_loopw [19] (fun i wx => ∃ k : Nat, k ≤ 8 ∧ i = .int .i64 k ∧ HasW wx (w.heap.size + 1) 81 (part F (4 + k)) ∧ HasW wx w.heap.size 81 z16 ∧ Below w.heap.size w wx)
        (fun i _ => 8 - (intOf i).toNat)
      case atStart => exact ⟨0, by omega, rfl, h1, h0, hb⟩
      case round =>
        clear h1 h0 hb hlt hk' q1 p1
        obtain ⟨k, hk', rfl, h1, h0, hb⟩ := hrel
        by_cases hlt : k < 8
        · have i1 : 4 + (k : Int) < 16 := by omega
          have i0 : (0 : Int) ≤ 4 + (k : Int) := by omega
          have it : (4 + (k : Int)).toNat = 4 + k := by omega
          have iw : IntKind.i64.wrap (4 + (k : Int)) = 4 + (k : Int) := by rw [IntKind.wrap_i64]; omega
          have HF := hide (h1.drew.free (4 + k))
          have HC := hide (h1.drew.cell (4 + k) (by rw [part_len F (4 + k) lF (by omega)]; omega))
          go_wp2_with (go_at_call 71; refine (q2.out k hlt _).mono ?_; rintro e w1 ⟨rfl, rfl⟩; have hf := HF.out; have hc := HC.out)
          go_roundw
          case rel => (repeat apply Exists.intro); exact ⟨⟨k + 1, by omega, by go_num, by rw [← Nat.add_assoc, ← part_succ F (4 + k) lF (by omega), p2.out k hlt]; exact h1.drew.set (4 + k) _, h0.drew.other _ (by simp) _, hb.drew.setCell (by simp) _⟩, rfl⟩
          case measure => simp [intOf]; omega
        · obtain rfl : k = 8 := by omega
          have hf := h1.free 12
          have hc := h1.cell 12 (by rw [part_len F 12 lF (by omega)]; omega)
          have h1' := h1.set 12 n
          rw [← p4.out, part_succ F 12 lF (by omega), p4.out] at h1'
          have h0' := h0.other ⟨w.heap.size + 1, 12, none⟩ (by simp) (.int .u32 (N n))
          have hb' := hb.setCell (p := ⟨w.heap.size + 1, 12, none⟩) (by simp) (.int .u32 (N n))
          have H1 := hide h1'
          have H0 := hide h0'
          have HB := hide hb'
          clear h1 h1' h0 h0' hb hb'
          go_wp2
          go_loopw [31] (fun i wy => ∃ k : Nat, k ≤ 3 ∧ i = .int .i64 k ∧ HasW wy (w.heap.size + 1) 81 (part F (13 + k)) ∧ HasW wy w.heap.size 81 z16 ∧ Below w.heap.size w wy)
            (fun i _ => 3 - (intOf i).toNat)
          case atStart => exact ⟨0, by omega, rfl, H1.out, H0.out, HB.out⟩
          case round =>
            clear H1 H0 HB hf hc hlt hk' q2 p2
            obtain ⟨k, hk', rfl, h1, h0, hb⟩ := hrel
            by_cases hlt : k < 3
            · have i1 : 13 + (k : Int) < 16 := by omega
              have i0 : (0 : Int) ≤ 13 + (k : Int) := by omega
              have it : (13 + (k : Int)).toNat = 13 + k := by omega
              have iw : IntKind.i64.wrap (13 + (k : Int)) = 13 + (k : Int) := by rw [IntKind.wrap_i64]; omega
              have HF := hide (h1.drew.free (13 + k))
              have HC := hide (h1.drew.cell (13 + k) (by rw [part_len F (13 + k) lF (by omega)]; omega))
              go_wp2_with (go_at_call 71; refine (q3.out k hlt _).mono ?_; rintro e w1 ⟨rfl, rfl⟩; have hf := HF.out; have hc := HC.out)
              go_roundw
              case rel => (repeat apply Exists.intro); exact ⟨⟨k + 1, by omega, by go_num, by rw [← Nat.add_assoc, ← part_succ F (13 + k) lF (by omega), p3.out k hlt]; exact h1.drew.set (13 + k) _, h0.drew.other _ (by simp) _, hb.drew.setCell (by simp) _⟩, rfl⟩
              case measure => simp [intOf]; omega
            · obtain rfl : k = 3 := by omega
              have e16 : part F (13 + 3) = F := part_full F lF
              rw [e16] at h1
              clear e16
              have h0R : HasR wr w.heap.size 81 (rowW z16) := h0
              go_wp2_with (first
                | ((with_reducible refine load_row 81 (w.heap.size + 1) F 81 ?_ ?_ Tryd.underlying81 ?_ ?_ ?_); rfl; exact h1; rfl; (rw [lF]; kernel_rfl))
                | ((with_reducible refine store_row 81 w.heap.size F 81 (rowW z16) ?_ ?_ h0R ?_ ?_ ?_); rfl; rfl; (rw [rowW_size, lF, z16_len]); (rw [lF]; kernel_rfl); generalize hW4 : World.setCells _ _ _ _ = W4; have hR4 : HasW W4 w.heap.size 81 F := whole_words h0 hW4 (by rw [rowW_size, lF, z16_len]); have hb4 : Below w.heap.size w W4 := below_setCells' hb hW4 (Nat.le_refl _); clear hW4))
              exact bodyPost_ret (v := .agg (rowW F)) (results_cell_row Tryd.results52 _ _ w.heap.size 81 (rowW F) (0, 0) _ rfl hR4 Tryd.underlying81 rfl (by rw [rowW_size, lF]; kernel_rfl)) rfl ⟨rfl, hb4⟩
end Go.Proofs.YteckhejfmbiamaaDoor
