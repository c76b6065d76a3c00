/- The document's quarter round: what it comes to, for every sixteen words and four places. -/
import Derived.Test.YteckhejfmbiamaaDoorRefWords
namespace Go.Proofs.YteckhejfmbiamaaDoor
open Go.RowKit
attribute [local go_sem] N_xor N_addm
attribute [local go_sem ↓] Go.wp_at_zero Go.wp_at_succ
theorem turn_nat (x : BitVec 32) (k m : Nat) (hk : k + m = 32) (hk2 : k ≤ 16) : (((x.toNat * 2 ^ k ||| x.toNat * 2 ^ k / 4294967296 : Nat) : Int)) % 4294967296 = N (rl x k) := by
  have hx := x.isLt
  unfold N rl
  rw [BitVec.toNat_or, BitVec.toNat_shiftLeft, BitVec.toNat_ushiftRight, Nat.shiftLeft_eq, Nat.shiftRight_eq_div_pow]
  have e1 : (x.toNat * 2 ^ k ||| x.toNat * 2 ^ k / 4294967296) % 2 ^ 32 = x.toNat * 2 ^ k % 2 ^ 32 ||| x.toNat * 2 ^ k / 4294967296 % 2 ^ 32 := Nat.or_mod_two_pow
  have e2 : x.toNat * 2 ^ k / 4294967296 = x.toNat / 2 ^ (32 - k) := by
    have e3 : (4294967296 : Nat) = 2 ^ k * 2 ^ m := by rw [← Nat.pow_add, hk]
    have e4 : 32 - k = m := by omega
    rw [e3, e4, Nat.mul_comm x.toNat, Nat.mul_div_mul_left _ _ (Nat.two_pow_pos k)]
  have e5 : x.toNat / 2 ^ (32 - k) % 2 ^ 32 = x.toNat / 2 ^ (32 - k) := Nat.mod_eq_of_lt (Nat.lt_of_le_of_lt (Nat.div_le_self _ _) hx)
  rw [← e2] at e5 ⊢
  rw [e5] at e1
  rw [← e1]
  exact Int.natCast_emod _ _
theorem turn_int (x : BitVec 32) (k m : Nat) (hk : k + m = 32) (hk2 : k ≤ 16) (p : Int) (hp : p = ((2 ^ k : Nat) : Int)) : bits .or .u64 (N x * p) (N x * p / 4294967296) % 4294967296 = N (rl x k) := by
  have hx := x.isLt
  have h1 : (2 : Nat) ^ k ≤ 2 ^ 16 := Nat.pow_le_pow_right (by omega) hk2
  have h2 : x.toNat * 2 ^ k ≤ 4294967296 * 65536 := Nat.mul_le_mul (by omega) h1
  have e1 : N x * p = ((x.toNat * 2 ^ k : Nat) : Int) := by rw [hp]; unfold N; exact (Int.natCast_mul _ _).symm
  have e2 : ((x.toNat * 2 ^ k : Nat) : Int) / 4294967296 = ((x.toNat * 2 ^ k / 4294967296 : Nat) : Int) := by omega
  rw [e1, e2, u64_or_nat _ _ (by omega) (by omega)]
  exact turn_nat x k m hk hk2
theorem N_wide (x : BitVec 32) : IntKind.u64.wrap (N x) = N x := by
  have := N_nonneg x
  have := N_lt x
  rw [IntKind.wrap_u64]; omega
set_option maxHeartbeats 400000 in
theorem turn_16 (x : BitVec 32) (w : World) :
    Calls Tryd.prog 51 #[.int .u32 (N x), .int .u64 16] w fun e w' => e = .returned (.int .u32 (N (rl x 16))) ∧ w' = w := by
  have r0 := N_wide x
  have r1 := N_nonneg x
  have r2 := N_lt x
  have r3 : IntKind.u64.wrap (N x * (65536 : Int)) = N x * 65536 := by rw [IntKind.wrap_u64]; omega
  have r4 := hide (turn_int x 16 16 (by omega) (by omega) (65536 : Int) (by decide))
  go_enter Tryd.func51, Tryd.ntmps51
  go_wp2
  go_ret
  exact ⟨ret_val (by rw [← r4.out]; rfl), rfl⟩
set_option maxHeartbeats 400000 in
theorem turn_12 (x : BitVec 32) (w : World) :
    Calls Tryd.prog 51 #[.int .u32 (N x), .int .u64 12] w fun e w' => e = .returned (.int .u32 (N (rl x 12))) ∧ w' = w := by
  have r0 := N_wide x
  have r1 := N_nonneg x
  have r2 := N_lt x
  have r3 : IntKind.u64.wrap (N x * (4096 : Int)) = N x * 4096 := by rw [IntKind.wrap_u64]; omega
  have r4 := hide (turn_int x 12 20 (by omega) (by omega) (4096 : Int) (by decide))
  go_enter Tryd.func51, Tryd.ntmps51
  go_wp2
  go_ret
  exact ⟨ret_val (by rw [← r4.out]; rfl), rfl⟩
set_option maxHeartbeats 400000 in
theorem turn_8 (x : BitVec 32) (w : World) :
    Calls Tryd.prog 51 #[.int .u32 (N x), .int .u64 8] w fun e w' => e = .returned (.int .u32 (N (rl x 8))) ∧ w' = w := by
  have r0 := N_wide x
  have r1 := N_nonneg x
  have r2 := N_lt x
  have r3 : IntKind.u64.wrap (N x * (256 : Int)) = N x * 256 := by rw [IntKind.wrap_u64]; omega
  have r4 := hide (turn_int x 8 24 (by omega) (by omega) (256 : Int) (by decide))
  go_enter Tryd.func51, Tryd.ntmps51
  go_wp2
  go_ret
  exact ⟨ret_val (by rw [← r4.out]; rfl), rfl⟩
set_option maxHeartbeats 400000 in
theorem turn_7 (x : BitVec 32) (w : World) :
    Calls Tryd.prog 51 #[.int .u32 (N x), .int .u64 7] w fun e w' => e = .returned (.int .u32 (N (rl x 7))) ∧ w' = w := by
  have r0 := N_wide x
  have r1 := N_nonneg x
  have r2 := N_lt x
  have r3 : IntKind.u64.wrap (N x * (128 : Int)) = N x * 128 := by rw [IntKind.wrap_u64]; omega
  have r4 := hide (turn_int x 7 25 (by omega) (by omega) (128 : Int) (by decide))
  go_enter Tryd.func51, Tryd.ntmps51
  go_wp2
  go_ret
  exact ⟨ret_val (by rw [← r4.out]; rfl), rfl⟩
theorem turn_a (x : BitVec 32) (k : Nat) (hk : k < 2) (w : World) :
    Calls Tryd.prog 51 #[.int .u32 (N x), .int .u64 (IntKind.u64.wrap (IntKind.i64.wrap (16 - IntKind.i64.wrap (8 * (k : Int)))))] w fun e w' => e = .returned (.int .u32 (N (rl x (16 - 8 * k)))) ∧ w' = w := by
  match k, hk with
  | 0, _ =>
    rw [show IntKind.u64.wrap (IntKind.i64.wrap (16 - IntKind.i64.wrap (8 * ((0 : Nat) : Int)))) = 16 by decide]
    exact turn_16 x w
  | 1, _ =>
    rw [show IntKind.u64.wrap (IntKind.i64.wrap (16 - IntKind.i64.wrap (8 * ((1 : Nat) : Int)))) = 8 by decide]
    exact turn_8 x w
theorem turn_b (x : BitVec 32) (k : Nat) (hk : k < 2) (w : World) :
    Calls Tryd.prog 51 #[.int .u32 (N x), .int .u64 (IntKind.u64.wrap (IntKind.i64.wrap (12 - IntKind.i64.wrap (5 * (k : Int)))))] w fun e w' => e = .returned (.int .u32 (N (rl x (12 - 5 * k)))) ∧ w' = w := by
  match k, hk with
  | 0, _ =>
    rw [show IntKind.u64.wrap (IntKind.i64.wrap (12 - IntKind.i64.wrap (5 * ((0 : Nat) : Int)))) = 12 by decide]
    exact turn_12 x w
  | 1, _ =>
    rw [show IntKind.u64.wrap (IntKind.i64.wrap (12 - IntKind.i64.wrap (5 * ((1 : Nat) : Int)))) = 7 by decide]
    exact turn_7 x w
/-- The first k halves of a quarter round. -/
def halfQ (L : List (BitVec 32)) (a b c d : Nat) : Nat → List (BitVec 32)
  | 0 => L
  | k + 1 => qh (halfQ L a b c d k) a b c d (16 - 8 * k) (12 - 5 * k)
theorem halfQ_two (L : List (BitVec 32)) (a b c d : Nat) : halfQ L a b c d 2 = qr L a b c d := rfl
theorem BR.cellW {w : World} {base : Nat} {e : TypeId} {g n cap : Nat} {l : List (BitVec 32)} (h : BR w base e g n cap (wordsV l)) (j : Nat) (hj : j < n) : w.cell? ⟨g, j, none⟩ = some (.int .u32 (N (wd l j))) := by
  have hl := h.len
  rw [wordsV_len] at hl
  rw [h.cell j hj]
  simp [wordsV, wd, hl, hj]
theorem BR.setW {w : World} {base : Nat} {e : TypeId} {g n cap : Nat} {l : List (BitVec 32)} (h : BR w base e g n cap (wordsV l)) (j : Nat) (x : BitVec 32) : BR (w.setCell ⟨g, j, none⟩ (.int .u32 (N x))) base e g n cap (wordsV (l.set j x)) := by
  obtain ⟨cur, fr, hg, hs, ht, hf⟩ := h.blk
  have hle := h.le
  have hl := h.len
  refine ⟨by rw [wordsV_len, List.length_set, ← wordsV_len]; exact hl, h.base, h.le, cur.setIfInBounds j (.int .u32 (N x)), fr, ?_, by simpa using hs, ?_, hf⟩
  · simp [World.setCell, Array.getElem?_modify, hg]
  · rw [Array.toList_setIfInBounds, List.take_set, ht]
    simp [wordsV, List.map_set]
/-- Block g alone of what lay there before was written; new blocks may have been laid. -/
structure Grew (g : Nat) (w w' : World) : Prop where
  os : w'.os = w.os
  tape : w'.tape = w.tape
  output : w'.output = w.output
  size : w.heap.size ≤ w'.heap.size
  block : ∀ k, k < w.heap.size → k ≠ g → w'.heap[k]? = w.heap[k]?
theorem Grew.refl (g : Nat) (w : World) : Grew g w w := ⟨rfl, rfl, rfl, Nat.le_refl _, fun _ _ _ => rfl⟩
theorem Grew.trans {g : Nat} {a b c : World} (h : Grew g a b) (k : Grew g b c) : Grew g a c :=
  ⟨k.os.trans h.os, k.tape.trans h.tape, k.output.trans h.output, Nat.le_trans h.size k.size, fun i hi hg => (k.block i (Nat.lt_of_lt_of_le hi h.size) hg).trans (h.block i hi hg)⟩
theorem Grew.set (g o : Nat) (w : World) (v : Value) : Grew g w (w.setCell ⟨g, o, none⟩ v) :=
  ⟨rfl, rfl, rfl, by simp, fun k _ hk => heap_setCell_other w ⟨g, o, none⟩ k v hk⟩
theorem Grew.drew {g : Nat} {w w' : World} (h : Grew g w w') : Grew g w w'.drew := ⟨h.os, h.tape, h.output, h.size, h.block⟩
theorem Grew.drewN {g : Nat} {w w' : World} (h : Grew g w w') (n : Nat) : Grew g w (w'.drewN n) := ⟨h.os, h.tape, h.output, h.size, h.block⟩
theorem Grew.alloc (g : Nat) (w : World) (o : Obj) : Grew g w (w.alloc o) := ⟨rfl, rfl, rfl, by simp, fun k hk _ => Below.heap_alloc w o k hk⟩
theorem Grew.of_below {g B : Nat} {w w' : World} (h : Below B w w') (hB : B = w.heap.size) : Grew g w w' := ⟨h.os, h.tape, h.output, h.size, fun k hk _ => h.block k (by omega)⟩
theorem Grew.below {g B : Nat} {w w' : World} (h : Grew g w w') (hB : B ≤ g) (hB2 : B ≤ w.heap.size) : Below B w w' := ⟨h.os, h.tape, h.output, h.size, fun k hk => h.block k (by omega) (by omega)⟩
theorem Grew.br {g b : Nat} {w w' : World} (h : Grew g w w') {base : Nat} {e : TypeId} {n cap : Nat} {xs : List Value} (hr : BR w base e b n cap xs) (hb : b ≠ g) : BR w' base e b n cap xs := hr.same (h.block b hr.lt hb)
theorem Grew.hasR {g b : Nat} {w w' : World} (h : Grew g w w') {t : TypeId} {cs : Array Value} (hr : HasR w b t cs) (hb : b ≠ g) : HasR w' b t cs := by
  have hl := hr.lt
  unfold HasR at *; rw [h.block b hl hb]; exact hr
/-- Within a quarter round: the words, the four places, and nothing else. -/
def MixSt (w : World) (base g cap : Nat) (A : Array Value) (L : List (BitVec 32)) (wx : World) : Prop := BR wx base 49 g 16 cap (wordsV L) ∧ HasR wx w.heap.size 69 A ∧ Grew g w wx
theorem MixSt.set {w wx : World} {base g cap : Nat} {A : Array Value} {L : List (BitVec 32)} (h : MixSt w base g cap A L wx) (hg : w.heap.size ≠ g) (j : Nat) (x : BitVec 32) : MixSt w base g cap A (L.set j x) (wx.setCell ⟨g, j, none⟩ (.int .u32 (N x))).drew :=
  ⟨(h.1.setW j x).drew, (h.2.1.other ⟨g, j, none⟩ hg _).drew, (h.2.2.trans (Grew.set g j wx _)).drew⟩
theorem MixSt.drew {w wx : World} {base g cap : Nat} {A : Array Value} {L : List (BitVec 32)} (h : MixSt w base g cap A L wx) : MixSt w base g cap A L wx.drew :=
  ⟨h.1.drew, h.2.1.drew, h.2.2.drew⟩
theorem MixSt.len {w wx : World} {base g cap : Nat} {A : Array Value} {L : List (BitVec 32)} (h : MixSt w base g cap A L wx) : L.length = 16 := by have := h.1.len; rwa [wordsV_len] at this
set_option maxRecDepth 100000 in
set_option maxHeartbeats 2000000 in
theorem refMix_any (base g cap : Nat) (L : List (BitVec 32)) (a b c d : Nat) (ha : a < 16) (hb : b < 16) (hc : c < 16) (hd : d < 16) (w : World) (h : BR w base 49 g 16 cap (wordsV L)) :
    Calls Tryd.prog 41 #[.slice (some ⟨g, 0, none⟩) 16 cap, .agg #[.int .i64 a, .int .i64 b, .int .i64 c, .int .i64 d]] w fun e w' => e = .returned (.tuple #[]) ∧ BR w' base 49 g 16 cap (wordsV (qr L a b c d)) ∧ Grew g w w' := by
  have ia : (a : Int) < 16 := by omega
  have ib : (b : Int) < 16 := by omega
  have ic : (c : Int) < 16 := by omega
  have id' : (d : Int) < 16 := by omega
  have hgl := h.lt
  have hgn : w.heap.size ≠ g := by omega
  go_enter Tryd.func41, Tryd.ntmps41
  go_wp2
  go_loopw [10] (fun i wr => ∃ k : Nat, k ≤ 2 ∧ i = .int .i64 k ∧ MixSt w base g cap #[.int .i64 a, .int .i64 b, .int .i64 c, .int .i64 d] (halfQ L a b c d k) wr)
    (fun i _ => 2 - (intOf i).toNat)
  case atStart => exact ⟨0, by omega, rfl, h.alloc _, HasR.new w 69 _, Grew.alloc g w _⟩
  case round =>
    clear h
    obtain ⟨k, hk, rfl, hm⟩ := hrel
    by_cases hlt : k < 2
    · have hQ : halfQ L a b c d (k + 1) = qh (halfQ L a b c d k) a b c d (16 - 8 * k) (12 - 5 * k) := rfl
      generalize halfQ L a b c d k = L0 at hm hQ
      have HQ := hide hQ
      clear hQ
      go_wp2
      go_cut [6, 7, 8, 9] (fun p q r s wx => p = .int .i64 a ∧ q = .int .i64 b ∧ r = .int .i64 c ∧ s = .int .i64 d ∧ MixSt w base g cap #[.int .i64 a, .int .i64 b, .int .i64 c, .int .i64 d] L0 wx)
      case first =>
        have c0 := hm.2.1.cell 0
        have c1 := hm.2.1.cell 1
        have c2 := hm.2.1.cell 2
        have c3 := hm.2.1.cell 3
        simp at c0 c1 c2 c3
        go_region
        all_goals (
          go_wp2
          go_meet
          case rel => exact ⟨rfl, rfl, rfl, rfl, hm.drew⟩)
      case rest =>
        obtain ⟨rfl, rfl, rfl, rfl, hm0⟩ := hcut
        clear hm
        go_wp2
        go_cut [] (fun wx => MixSt w base g cap #[.int .i64 a, .int .i64 b, .int .i64 c, .int .i64 d] (sAdd L0 a b) wx)
        case first =>
          have cx := hm0.1.cellW a (by omega)
          have cy := hm0.1.cellW b (by omega)
          have fx := hm0.1.free a (by omega)
          go_region
          all_goals (
            go_wp2
            go_meet
            case rel => exact hm0.set hgn a _)
        case rest =>
          have hm1 := hcut
          generalize hL1 : sAdd L0 a b = L1 at hm1
          clear hm0 hcut
          go_wp2
          go_cut [] (fun wx => MixSt w base g cap #[.int .i64 a, .int .i64 b, .int .i64 c, .int .i64 d] (sRot L1 d a (16 - 8 * k)) wx)
          case first =>
            have cx := hm1.1.cellW d (by omega)
            have cy := hm1.1.cellW a (by omega)
            have fx := hm1.1.free d (by omega)
            go_region_with (first | (go_at_call 51; refine (turn_a _ k hlt _).mono ?_; rintro e w' ⟨rfl, rfl⟩))
            all_goals (
              go_wp2
              go_meet
              case rel => exact hm1.set hgn d _)
          case rest =>
            have hm2 := hcut
            generalize hL2 : sRot L1 d a (16 - 8 * k) = L2 at hm2
            clear hm1 hcut
            go_wp2
            go_cut [] (fun wx => MixSt w base g cap #[.int .i64 a, .int .i64 b, .int .i64 c, .int .i64 d] (sAdd L2 c d) wx)
            case first =>
              have cx := hm2.1.cellW c (by omega)
              have cy := hm2.1.cellW d (by omega)
              have fx := hm2.1.free c (by omega)
              go_region
              all_goals (
                go_wp2
                go_meet
                case rel => exact hm2.set hgn c _)
            case rest =>
              have hm3 := hcut
              generalize hL3 : sAdd L2 c d = L3 at hm3
              clear hm2 hcut
              go_wp2
              have cx := hm3.1.cellW b (by omega)
              have cy := hm3.1.cellW c (by omega)
              have fx := hm3.1.free b (by omega)
              go_region_with (first | (go_at_call 51; refine (turn_b _ k hlt _).mono ?_; rintro e w' ⟨rfl, rfl⟩))
              all_goals (
                go_wp2
                go_roundw
                case rel =>
                  have e : halfQ L a b c d (k + 1) = sRot L3 b c (12 - 5 * k) := by rw [HQ.out]; subst hL3 hL2 hL1; rfl
                  first
                    | exact ⟨k + 1, by omega, by go_num, by rw [e]; exact hm3.set hgn b _⟩
                    | ((repeat apply Exists.intro); exact ⟨⟨k + 1, by omega, by go_num, by rw [e]; exact hm3.set hgn b _⟩, rfl⟩)
                case measure => simp [intOf]; omega)
    · obtain rfl : k = 2 := by omega
      rw [halfQ_two] at hm
      generalize hQ : qr L a b c d = Q at hm
      have HQ := hide hQ
      clear hQ
      go_wp2
      go_end0
      exact ⟨rfl, by rw [HQ.out]; exact hm.1, hm.2.2⟩
end Go.Proofs.YteckhejfmbiamaaDoor
