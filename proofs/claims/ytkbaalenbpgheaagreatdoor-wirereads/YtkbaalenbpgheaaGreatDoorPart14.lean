/- Texts of this proof, one behind the other. -/
import Derived.Test.YtkbaalenbpgheaaGreatDoorProg
import Derived.WalkKit
import Derived.WalkSpells
import Derived.WalkLawsBesides
import Derived.Deep.QuietTactic
import Derived.BigQuiet
import Derived.Deep.RegionHeld3
import Derived.Deep.DrawnRows
import Derived.Deep.DeepCutAuto
import Derived.Test.YtkbaalenbpgheaaGreatDoorPart13
/- The stream as plain mathematics of words: a quarter round, a double round, a block, a text taken together with blocks. -/
namespace Go.Proofs.YtkbaalenbpgheaaGreatDoor
open Go

/-- A word turned to the left. -/
def rl (x : BitVec 32) (k : Nat) : BitVec 32 := x <<< k ||| x >>> (32 - k)
/-- Word b is added to word a. -/
def sAdd (L : List (BitVec 32)) (a b : Nat) : List (BitVec 32) := L.set a (wd L a + wd L b)
/-- Word a is taken together with word d, and that is turned. -/
def sRot (L : List (BitVec 32)) (d a k : Nat) : List (BitVec 32) := L.set d (rl (wd L d ^^^ wd L a) k)
/-- Half a quarter round. -/
def qh (L : List (BitVec 32)) (a b c d p q : Nat) : List (BitVec 32) := sRot (sAdd (sRot (sAdd L a b) d a p) c d) b c q
/-- A quarter round. -/
def qr (L : List (BitVec 32)) (a b c d : Nat) : List (BitVec 32) := qh (qh L a b c d 16 12) a b c d 8 7
theorem sAdd_len (L : List (BitVec 32)) (a b : Nat) : (sAdd L a b).length = L.length := by simp [sAdd]
theorem sRot_len (L : List (BitVec 32)) (d a k : Nat) : (sRot L d a k).length = L.length := by simp [sRot]
theorem qh_len (L : List (BitVec 32)) (a b c d p q : Nat) : (qh L a b c d p q).length = L.length := by simp [qh, sAdd_len, sRot_len]
theorem qr_len (L : List (BitVec 32)) (a b c d : Nat) : (qr L a b c d).length = L.length := by simp [qr, qh_len]
/-- The first k columns. -/
def colTo (L : List (BitVec 32)) : Nat → List (BitVec 32)
  | 0 => L
  | k + 1 => qr (colTo L k) k (4 + k) (8 + k) (12 + k)
/-- The first k diagonals. -/
def diaTo (L : List (BitVec 32)) : Nat → List (BitVec 32)
  | 0 => L
  | k + 1 => qr (diaTo L k) k (4 + (k + 1) % 4) (8 + (k + 2) % 4) (12 + (k + 3) % 4)
theorem colTo_len (L : List (BitVec 32)) (k : Nat) : (colTo L k).length = L.length := by
  induction k with
  | zero => rfl
  | succ k ih => simp [colTo, qr_len, ih]
theorem diaTo_len (L : List (BitVec 32)) (k : Nat) : (diaTo L k).length = L.length := by
  induction k with
  | zero => rfl
  | succ k ih => simp [diaTo, qr_len, ih]
/-- A double round. -/
def dbl (L : List (BitVec 32)) : List (BitVec 32) := diaTo (colTo L 4) 4
/-- So many double rounds. -/
def dblTo (L : List (BitVec 32)) : Nat → List (BitVec 32)
  | 0 => L
  | k + 1 => dbl (dblTo L k)
theorem dbl_len (L : List (BitVec 32)) : (dbl L).length = L.length := by simp [dbl, diaTo_len, colTo_len]
theorem dblTo_len (L : List (BitVec 32)) (k : Nat) : (dblTo L k).length = L.length := by
  induction k with
  | zero => rfl
  | succ k ih => simp [dblTo, dbl_len, ih]

/-- Four bytes as a word, the smallest first. -/
def lword4 (p q r s : UInt8) : BitVec 32 := bw p ||| bw q <<< 8 ||| bw r <<< 16 ||| bw s <<< 24
/-- The k-th word of a text. -/
def lwordAt (l : List UInt8) (k : Nat) : BitVec 32 := lword4 (l.getD (4 * k) 0) (l.getD (4 * k + 1) 0) (l.getD (4 * k + 2) 0) (l.getD (4 * k + 3) 0)
/-- The text that is always there. -/
def sigma : List UInt8 := [101, 120, 112, 97, 110, 100, 32, 51, 50, 45, 98, 121, 116, 101, 32, 107]
/-- Sixteen words: the text that is always there, a key, a number, a nonce. -/
def first (key : List UInt8) (n : BitVec 32) (nonce : List UInt8) : List (BitVec 32) :=
  (List.range 4).map (lwordAt sigma) ++ ((List.range 8).map (lwordAt key) ++ (n :: (List.range 3).map (lwordAt nonce)))
theorem first_len (key : List UInt8) (n : BitVec 32) (nonce : List UInt8) : (first key n nonce).length = 16 := by simp [first]
/-- A word's four bytes, the smallest first. -/
def lbytes4 (x : BitVec 32) : List UInt8 := [UInt8.ofNat x.toNat, UInt8.ofNat (x.toNat / 256), UInt8.ofNat (x.toNat / 65536), UInt8.ofNat (x.toNat / 16777216)]
/-- The bytes of the first k words of two lists, added. -/
def outTo (W F : List (BitVec 32)) (k : Nat) : List UInt8 := (List.range k).flatMap fun i => lbytes4 (wd W i + wd F i)
theorem outTo_succ (W F : List (BitVec 32)) (k : Nat) : outTo W F (k + 1) = outTo W F k ++ lbytes4 (wd W k + wd F k) := by
  simp [outTo, List.range_succ, List.flatMap_append]
theorem outTo_len (W F : List (BitVec 32)) (k : Nat) : (outTo W F k).length = 4 * k := by
  induction k with
  | zero => rfl
  | succ k ih => rw [outTo_succ, List.length_append, ih]; simp [lbytes4]; omega
/-- A block. -/
def blockL (key : List UInt8) (n : BitVec 32) (nonce : List UInt8) : List UInt8 := outTo (dblTo (first key n nonce) 10) (first key n nonce) 16
theorem blockL_len (key : List UInt8) (n : BitVec 32) (nonce : List UInt8) : (blockL key n nonce).length = 64 := outTo_len _ _ 16
/-- Byte i of the blocks from number 1 on. -/
def keyAt (key nonce : List UInt8) (i : Nat) : UInt8 := (blockL key (BitVec.ofNat 32 (1 + i / 64)) nonce).getD (i % 64) 0
/-- The first k bytes of a text taken together with the blocks, the others as they are. -/
def xorTo (key nonce l : List UInt8) (k : Nat) : List UInt8 := (List.range l.length).map fun i => if i < k then l.getD i 0 ^^^ keyAt key nonce i else l.getD i 0
/-- A text taken together with the blocks. -/
def xorL (key nonce l : List UInt8) : List UInt8 := xorTo key nonce l l.length
theorem xorTo_len (key nonce l : List UInt8) (k : Nat) : (xorTo key nonce l k).length = l.length := by simp [xorTo]
theorem xorTo_zero (key nonce l : List UInt8) : xorTo key nonce l 0 = l := by
  apply List.ext_getElem
  · simp [xorTo]
  · intro i h1 h2
    simp [xorTo, h2]
theorem xorTo_succ (key nonce l : List UInt8) (k : Nat) : (xorTo key nonce l k).set k (l.getD k 0 ^^^ keyAt key nonce k) = xorTo key nonce l (k + 1) := by
  apply List.ext_getElem
  · simp [xorTo]
  · intro i h1 h2
    rw [List.getElem_set]
    by_cases hk : k = i
    · subst hk; simp [xorTo]
    · simp only [xorTo, List.getElem_map, List.getElem_range, if_neg hk]
      by_cases h3 : i < k
      · rw [if_pos h3, if_pos (by omega)]
      · rw [if_neg h3, if_neg (by omega)]
theorem xorTo_at (key nonce l : List UInt8) (k i : Nat) (h : i < l.length) (hk : k ≤ i) : (xorTo key nonce l k).getD i 0 = l.getD i 0 := by
  have : ¬ i < k := by omega
  simp [xorTo, h, this]
end Go.Proofs.YtkbaalenbpgheaaGreatDoor

/- Turning a word to the left: the program's own way (the library's RotateLeft32) at the four counts that it is called with. -/
namespace Go.Proofs.YtkbaalenbpgheaaGreatDoor
open Go.RowKit
set_option maxHeartbeats 400000 in
theorem left_16 (x : BitVec 32) (w : World) :
    Calls Tryz.prog 195 #[.int .u32 (N x), .int .i64 16] w fun e w' => e = .returned (.int .u32 (N (rl x 16))) ∧ w' = w := by
  have hb : bits .and .u64 16 31 = 16 := by decide +kernel
  have r0 : (N x * (65536 : Int) % (4294967296 : Int)) = N (x <<< 16) := N_shlm x 16
  have r1 : (N x / (65536 : Int)) = N (x >>> 16) := N_shr x 16
  have r2 := N_or
  go_enter Tryz.func195, Tryz.ntmps195
  go_wp2
  go_ret
  exact ⟨ret_val (by show Value.int .u32 (N (x <<< 16 ||| x >>> 16)) = _; rfl), rfl⟩
set_option maxHeartbeats 400000 in
theorem left_12 (x : BitVec 32) (w : World) :
    Calls Tryz.prog 195 #[.int .u32 (N x), .int .i64 12] w fun e w' => e = .returned (.int .u32 (N (rl x 12))) ∧ w' = w := by
  have hb : bits .and .u64 12 31 = 12 := by decide +kernel
  have r0 : (N x * (4096 : Int) % (4294967296 : Int)) = N (x <<< 12) := N_shlm x 12
  have r1 : (N x / (1048576 : Int)) = N (x >>> 20) := N_shr x 20
  have r2 := N_or
  go_enter Tryz.func195, Tryz.ntmps195
  go_wp2
  go_ret
  exact ⟨ret_val (by show Value.int .u32 (N (x <<< 12 ||| x >>> 20)) = _; rfl), rfl⟩
set_option maxHeartbeats 400000 in
theorem left_8 (x : BitVec 32) (w : World) :
    Calls Tryz.prog 195 #[.int .u32 (N x), .int .i64 8] w fun e w' => e = .returned (.int .u32 (N (rl x 8))) ∧ w' = w := by
  have hb : bits .and .u64 8 31 = 8 := by decide +kernel
  have r0 : (N x * (256 : Int) % (4294967296 : Int)) = N (x <<< 8) := N_shlm x 8
  have r1 : (N x / (16777216 : Int)) = N (x >>> 24) := N_shr x 24
  have r2 := N_or
  go_enter Tryz.func195, Tryz.ntmps195
  go_wp2
  go_ret
  exact ⟨ret_val (by show Value.int .u32 (N (x <<< 8 ||| x >>> 24)) = _; rfl), rfl⟩
set_option maxHeartbeats 400000 in
theorem left_7 (x : BitVec 32) (w : World) :
    Calls Tryz.prog 195 #[.int .u32 (N x), .int .i64 7] w fun e w' => e = .returned (.int .u32 (N (rl x 7))) ∧ w' = w := by
  have hb : bits .and .u64 7 31 = 7 := by decide +kernel
  have r0 : (N x * (128 : Int) % (4294967296 : Int)) = N (x <<< 7) := N_shlm x 7
  have r1 : (N x / (33554432 : Int)) = N (x >>> 25) := N_shr x 25
  have r2 := N_or
  go_enter Tryz.func195, Tryz.ntmps195
  go_wp2
  go_ret
  exact ⟨ret_val (by show Value.int .u32 (N (x <<< 7 ||| x >>> 25)) = _; rfl), rfl⟩
end Go.Proofs.YtkbaalenbpgheaaGreatDoor

/- A quarter round: what the program's own comes to, for every sixteen words and four places. -/
namespace Go.Proofs.YtkbaalenbpgheaaGreatDoor
open Go.RowKit
attribute [local go_sem] N_xor N_addm
attribute [local go_sem ↓] Go.wp_at_zero Go.wp_at_succ
/-- Nothing but block B was written, and nothing was laid. -/
structure Only (B : Nat) (w w' : World) : Prop where
  os : w'.os = w.os
  tape : w'.tape = w.tape
  output : w'.output = w.output
  size : w'.heap.size = w.heap.size
  block : ∀ k, k ≠ B → w'.heap[k]? = w.heap[k]?
theorem Only.refl (B : Nat) (w : World) : Only B w w := ⟨rfl, rfl, rfl, rfl, fun _ _ => rfl⟩
theorem Only.trans {B : Nat} {a b c : World} (h : Only B a b) (k : Only B b c) : Only B a c :=
  ⟨k.os.trans h.os, k.tape.trans h.tape, k.output.trans h.output, k.size.trans h.size, fun i hi => (k.block i hi).trans (h.block i hi)⟩
theorem Only.set (B o : Nat) (w : World) (v : Value) : Only B w (w.setCell ⟨B, o, none⟩ v) :=
  ⟨rfl, rfl, rfl, by simp, fun k hk => heap_setCell_other w ⟨B, o, none⟩ k v hk⟩
theorem Only.drew {B : Nat} {w w' : World} (h : Only B w w') : Only B w w'.drew := ⟨h.os, h.tape, h.output, h.size, h.block⟩
theorem Only.drewN {B : Nat} {w w' : World} (h : Only B w w') (n : Nat) : Only B w (w'.drewN n) := ⟨h.os, h.tape, h.output, h.size, h.block⟩
theorem Only.below {B b : Nat} {w w' : World} (h : Only B w w') (hb : b ≤ B) : Below b w w' :=
  ⟨h.os, h.tape, h.output, by rw [h.size]; exact Nat.le_refl _, fun k hk => h.block k (by omega)⟩
theorem Only.hasR {B b : Nat} {w w' : World} {t : TypeId} {cs : Array Value} (h : Only B w w') (hr : HasR w b t cs) (hb : b ≠ B) : HasR w' b t cs := by
  unfold HasR at *; rw [h.block b hb]; exact hr
set_option maxRecDepth 100000 in
set_option maxHeartbeats 1000000 in
theorem qr_any (B : Nat) (L : List (BitVec 32)) (a b c d : Nat) (ha : a < 16) (hb : b < 16) (hc : c < 16) (hd : d < 16) (hl : L.length = 16) (w : World) (h : HasW w B 257 L) :
    Calls Tryz.prog 187 #[.pointer (some ⟨B, 0, none⟩), .int .i64 a, .int .i64 b, .int .i64 c, .int .i64 d] w fun e w' => e = .returned (.tuple #[]) ∧ HasW w' B 257 (qr L a b c d) ∧ Only B w w' := by
  have ia : (a : Int) < 16 := by omega
  have ib : (b : Int) < 16 := by omega
  have ic : (c : Int) < 16 := by omega
  have id' : (d : Int) < 16 := by omega
  have o0 := Only.refl B w
  go_enter Tryz.func187, Tryz.ntmps187
  go_wp2
  go_cut [] (fun wr => HasW wr B 257 (sAdd L a b) ∧ Only B w wr)
  case first =>
    have cx := h.cell a (by omega)
    have cy := h.cell b (by omega)
    have fx := h.free a
    go_region
    all_goals (
      go_wp2
      go_meet
      case rel => exact ⟨(h.set a _).drew, o0.trans ((Only.set B a _ _).drew)⟩)
  case rest =>
    obtain ⟨h1, o1⟩ := hcut
    have l1 : (sAdd L a b).length = 16 := by rw [sAdd_len, hl]
    generalize hL1 : sAdd L a b = L1 at h1 l1
    clear h hl o0
    go_wp2
    go_cut [] (fun wr => HasW wr B 257 (sRot L1 d a 16) ∧ Only B w wr)
    case first =>
      have cx := h1.cell d (by omega)
      have cy := h1.cell a (by omega)
      have fx := h1.free d
      go_region_with (first | (go_at_call 195; refine (left_16 _ _).mono ?_; rintro e w' ⟨rfl, rfl⟩))
      all_goals (
        go_wp2
        go_meet
        case rel => exact ⟨(h1.set d _).drew, o1.trans ((Only.set B d _ _).drew)⟩)
    case rest =>
      obtain ⟨h2, o2⟩ := hcut
      have l2 : (sRot L1 d a 16).length = 16 := by rw [sRot_len, l1]
      generalize hL2 : sRot L1 d a 16 = L2 at h2 l2
      clear h1 l1 o1
      go_wp2
      go_cut [] (fun wr => HasW wr B 257 (sAdd L2 c d) ∧ Only B w wr)
      case first =>
        have cx := h2.cell c (by omega)
        have cy := h2.cell d (by omega)
        have fx := h2.free c
        go_region
        all_goals (
          go_wp2
          go_meet
          case rel => exact ⟨(h2.set c _).drew, o2.trans ((Only.set B c _ _).drew)⟩)
      case rest =>
        obtain ⟨h3, o3⟩ := hcut
        have l3 : (sAdd L2 c d).length = 16 := by rw [sAdd_len, l2]
        generalize hL3 : sAdd L2 c d = L3 at h3 l3
        clear h2 l2 o2
        go_wp2
        go_cut [] (fun wr => HasW wr B 257 (sRot L3 b c 12) ∧ Only B w wr)
        case first =>
          have cx := h3.cell b (by omega)
          have cy := h3.cell c (by omega)
          have fx := h3.free b
          go_region_with (first | (go_at_call 195; refine (left_12 _ _).mono ?_; rintro e w' ⟨rfl, rfl⟩))
          all_goals (
            go_wp2
            go_meet
            case rel => exact ⟨(h3.set b _).drew, o3.trans ((Only.set B b _ _).drew)⟩)
        case rest =>
          obtain ⟨h4, o4⟩ := hcut
          have l4 : (sRot L3 b c 12).length = 16 := by rw [sRot_len, l3]
          generalize hL4 : sRot L3 b c 12 = L4 at h4 l4
          clear h3 l3 o3
          go_wp2
          go_cut [] (fun wr => HasW wr B 257 (sAdd L4 a b) ∧ Only B w wr)
          case first =>
            have cx := h4.cell a (by omega)
            have cy := h4.cell b (by omega)
            have fx := h4.free a
            go_region
            all_goals (
              go_wp2
              go_meet
              case rel => exact ⟨(h4.set a _).drew, o4.trans ((Only.set B a _ _).drew)⟩)
          case rest =>
            obtain ⟨h5, o5⟩ := hcut
            have l5 : (sAdd L4 a b).length = 16 := by rw [sAdd_len, l4]
            generalize hL5 : sAdd L4 a b = L5 at h5 l5
            clear h4 l4 o4
            go_wp2
            go_cut [] (fun wr => HasW wr B 257 (sRot L5 d a 8) ∧ Only B w wr)
            case first =>
              have cx := h5.cell d (by omega)
              have cy := h5.cell a (by omega)
              have fx := h5.free d
              go_region_with (first | (go_at_call 195; refine (left_8 _ _).mono ?_; rintro e w' ⟨rfl, rfl⟩))
              all_goals (
                go_wp2
                go_meet
                case rel => exact ⟨(h5.set d _).drew, o5.trans ((Only.set B d _ _).drew)⟩)
            case rest =>
              obtain ⟨h6, o6⟩ := hcut
              have l6 : (sRot L5 d a 8).length = 16 := by rw [sRot_len, l5]
              generalize hL6 : sRot L5 d a 8 = L6 at h6 l6
              clear h5 l5 o5
              go_wp2
              go_cut [] (fun wr => HasW wr B 257 (sAdd L6 c d) ∧ Only B w wr)
              case first =>
                have cx := h6.cell c (by omega)
                have cy := h6.cell d (by omega)
                have fx := h6.free c
                go_region
                all_goals (
                  go_wp2
                  go_meet
                  case rel => exact ⟨(h6.set c _).drew, o6.trans ((Only.set B c _ _).drew)⟩)
              case rest =>
                obtain ⟨h7, o7⟩ := hcut
                have l7 : (sAdd L6 c d).length = 16 := by rw [sAdd_len, l6]
                generalize hL7 : sAdd L6 c d = L7 at h7 l7
                clear h6 l6 o6
                go_wp2
                have cx := h7.cell b (by omega)
                have cy := h7.cell c (by omega)
                have fx := h7.free b
                go_region_with (first | (go_at_call 195; refine (left_7 _ _).mono ?_; rintro e w' ⟨rfl, rfl⟩))
                all_goals (
                  go_wp2
                  go_end0
                  refine ⟨rfl, ?_, o7.trans ((Only.set B b _ _).drew)⟩
                  have e : qr L a b c d = sRot L7 b c 7 := by subst hL7 hL6 hL5 hL4 hL3 hL2 hL1; rfl
                  rw [e]
                  exact (h7.set b _).drew)
end Go.Proofs.YtkbaalenbpgheaaGreatDoor
