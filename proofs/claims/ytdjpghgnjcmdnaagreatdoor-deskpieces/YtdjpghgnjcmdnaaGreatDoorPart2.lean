/- Texts of this proof, one behind the other. -/
import Derived.Test.YtdjpghgnjcmdnaaGreatDoorProg
import Derived.WalkKit
import Derived.WalkSpells
import Derived.WalkLawsBesides
import Derived.Deep.QuietTactic
import Derived.BigQuiet
import Derived.Test.YtdjpghgnjcmdnaaGreatDoorPart1
/- Bytes: the laws for the program's own slices of bytes, of words of 64 bits and of numbers. -/
namespace Go.Proofs.YtdjpghgnjcmdnaaGreatDoor
open Go Go.RowKit

theorem Tryz.info5' : (Tryz.prog.info? 5).map (fun i => (i.zero, i.size, i.bytes)) = some (some (.int .u8 0), 1, 1) := by kernel_rfl
theorem Tryz.info38' : (Tryz.prog.info? 114).map (fun i => (i.zero, i.size, i.bytes)) = some (some (.int .u64 0), 1, 8) := by kernel_rfl
theorem Tryz.info3' : (Tryz.prog.info? 3).map (fun i => (i.zero, i.size, i.bytes)) = some (some (.int .i64 0), 1, 8) := by kernel_rfl
theorem elemB : ∃ i, Elem Tryz.prog 38 5 i (.int .u8 0) 1 := by
  obtain ⟨i, hi, h0, h1, h2⟩ := info_parts Tryz.info5'
  exact ⟨i, Tryz.underlying38, hi, h0, h1, h2, rfl, by omega⟩
theorem elemI : ∃ i, Elem Tryz.prog 232 3 i (.int .i64 0) 8 := by
  obtain ⟨i, hi, h0, h1, h2⟩ := info_parts Tryz.info3'
  exact ⟨i, Tryz.underlying232, hi, h0, h1, h2, rfl, by omega⟩

/-- Bytes as cells. -/
def bytesV (l : List UInt8) : List Value := l.map fun c => Value.int .u8 (c.toNat : Int)
theorem bytesV_len (l : List UInt8) : (bytesV l).length = l.length := by simp [bytesV]
theorem bytesV_app (l m : List UInt8) : bytesV (l ++ m) = bytesV l ++ bytesV m := by simp [bytesV]
theorem bytesV_one (l : List UInt8) : ∀ u ∈ bytesV l, u.oneCell' = true := by
  intro u hu
  simp only [bytesV, List.mem_map] at hu
  obtain ⟨c, _, rfl⟩ := hu
  rfl

/-- A text turned into bytes. -/
theorem conv_in {ops : Array Oper} {rest : List Oper} {a : Act} {w : World} {Q : Exit → Act → World → Prop} {tt : TypeId} {pos : String} {af : Array Edge} {x : Operand} {d : Tmp} (s : ByteArray) (hx : a.eval x = .string s)
    (h : ∀ cap w', BR w' w.heap.size 5 w.heap.size s.size cap (bytesV s.data.toList) → w.grownBy w' none → w'.heap.size = w.heap.size + 1 → wpList Tryz.prog ops Q rest (a.put (some d) (.slice (some ⟨w.heap.size, 0, none⟩) s.size cap)) w') :
    wpList Tryz.prog ops Q (⟨some d, .convert 9 38 x, tt, pos, af, none⟩ :: rest) a w := by
  refine wpList_plain rfl fun K hK => ?_
  unfold Oper.wp execOp
  simp only [hx, Sem.run_bind, run_bytes_of_string w 9 38 5 s Tryz.underlying9 Tryz.underlying38 Tryz.underlying5, Result.andThen_ok, Sem.run_pure]
  refine hK _ _ (h _ _ ⟨by rw [bytesV_len]; rfl, Nat.le_refl _, grownCap_ge _ _ _ _, ?_⟩ ?_ ?_)
  · refine ⟨_, _, heap_alloc_new _ _, ?_, ?_, ?_⟩
    · have := grownCap_ge w s.size 0 5
      have e : s.data.size = s.size := rfl
      simp [bytesRow]; omega
    · have e : s.data.size = s.size := rfl
      simp only [bytesRow, Array.toList_append, Array.toList_map]
      rw [List.take_append_of_le_length (by simp [e]), List.take_of_length_le (by simp [e])]
      rfl
    · right
      have := grownCap_ge w s.size 0 5
      have e : s.data.size = s.size := rfl
      simp [bytesRow]; omega
  · exact ⟨rfl, rfl, rfl, by simp, fun k hk _ => Below.heap_alloc w.drew _ k hk⟩
  · simp
/-- Bytes turned into a text. -/
theorem conv_out {ops : Array Oper} {rest : List Oper} {a : Act} {w : World} {Q : Exit → Act → World → Prop} {tt : TypeId} {pos : String} {af : Array Edge} {x : Operand} {d : Tmp} {base : Nat} (g n cap : Nat) (l : List UInt8) (hx : a.eval x = .slice (some ⟨g, 0, none⟩) n cap)
    (hr : BR w base 5 g n cap (bytesV l)) (h : wpList Tryz.prog ops Q rest (a.put (some d) (.string ⟨l.toArray⟩)) w) :
    wpList Tryz.prog ops Q (⟨some d, .convert 38 9 x, tt, pos, af, none⟩ :: rest) a w := by
  refine wpList_plain rfl fun K hK => ?_
  have hl : n = l.length := by rw [← hr.len, bytesV_len]
  subst hl
  have hrun := run_convert_bytes_back (P := Tryz.prog) w 38 9 5 ⟨g, 0, none⟩ cap l Tryz.underlying38 Tryz.underlying5 Tryz.underlying9 (fun j hj => by
    have hadd : (⟨g, 0, none⟩ : Addr).add j = ⟨g, j, none⟩ := by unfold Addr.add; split <;> simp_all
    rw [hadd, hr.cell j hj]
    simp [bytesV, hj])
  unfold Oper.wp execOp
  simp only [hx, Sem.run_bind, hrun, Result.andThen_ok, Sem.run_pure]
  exact hK _ _ h
end Go.Proofs.YtdjpghgnjcmdnaaGreatDoor

/- What the texts of the sums and of the stream share. -/
namespace Go.Proofs.YtdjpghgnjcmdnaaGreatDoor
open Go Go.RowKit
theorem ret_val {a b : Value} (h : a = b) : Ending.returned a = .returned b := by rw [h]

/-- A byte as a word. -/
def bw (c : UInt8) : BitVec 32 := BitVec.ofNat 32 c.toNat
theorem N_byte (c : UInt8) : ((c.toNat : Nat) : Int) % 4294967296 = N (bw c) := by
  have := c.toNat_lt
  unfold bw; rw [N_ofNat _ (by omega)]; omega
theorem N_shl24 (x : BitVec 32) : N x * (16777216 : Int) % (4294967296 : Int) = N (x <<< 24) := N_shlm x 24
theorem N_shl16 (x : BitVec 32) : N x * (65536 : Int) % (4294967296 : Int) = N (x <<< 16) := N_shlm x 16
theorem N_shl8 (x : BitVec 32) : N x * (256 : Int) % (4294967296 : Int) = N (x <<< 8) := N_shlm x 8
theorem bw_nat (c : UInt8) : (bw c).toNat = c.toNat := by
  have := c.toNat_lt
  unfold bw; rw [BitVec.toNat_ofNat]; omega
theorem nat4 (a b c d : Nat) (hb : b < 256) (hc : c < 256) (hd : d < 256) : a * 16777216 ||| b * 65536 ||| c * 256 ||| d = a * 16777216 + b * 65536 + c * 256 + d := by
  have e1 : a * 16777216 ||| b * 65536 = (a * 256 + b) <<< 16 := by
    have h := Nat.shiftLeft_add_eq_or_of_lt (a := a) (b := b) (i := 8) hb
    have h2 : (a <<< 8 ||| b) <<< 16 = a <<< 8 <<< 16 ||| b <<< 16 := Nat.shiftLeft_or_distrib
    rw [← h] at h2
    rw [Nat.shiftLeft_eq a 8, ← Nat.shiftLeft_eq a 8, ← Nat.shiftLeft_add] at h2
    rw [Nat.shiftLeft_eq a 24, Nat.shiftLeft_eq b 16, Nat.shiftLeft_eq a 8] at h2
    exact h2.symm
  have e2 : (a * 256 + b) <<< 16 ||| c * 256 = ((a * 256 + b) * 256 + c) <<< 8 := by
    have h := Nat.shiftLeft_add_eq_or_of_lt (a := a * 256 + b) (b := c) (i := 8) hc
    have h2 : ((a * 256 + b) <<< 8 ||| c) <<< 8 = (a * 256 + b) <<< 8 <<< 8 ||| c <<< 8 := Nat.shiftLeft_or_distrib
    rw [← h, ← Nat.shiftLeft_add, Nat.shiftLeft_eq (a * 256 + b) 8, Nat.shiftLeft_eq c 8] at h2
    exact h2.symm
  rw [e1, e2, ← Nat.shiftLeft_add_eq_or_of_lt (i := 8) hd, Nat.shiftLeft_eq]
  show ((a * 256 + b) * 256 + c) * 256 + d = _
  omega
theorem ext_at (s : ByteArray) (a b i : Nat) (h : i < (s.extract a b).size) : (s.extract a b)[i] = s.data.toList.getD (a + i) 0 := by
  have h2 : a + i < s.size := by rw [ByteArray.size_extract] at h; omega
  have h3 : a + i < s.data.size := h2
  rw [ByteArray.getElem_extract]
  show s.data[a + i] = _
  rw [List.getD_eq_getElem?_getD, Array.getElem?_toList, Array.getElem?_eq_getElem h3]; rfl
theorem br_one (w : World) (u : Nat) : BR (w.alloc (.cells #[.int .u8 ((u : Int) % 256)] 5)) w.heap.size 5 w.heap.size 1 1 (bytesV [UInt8.ofNat u]) :=
  ⟨rfl, Nat.le_refl _, Nat.le_refl _, _, _, heap_alloc_new w _, rfl, by simp [bytesV], .inl (Nat.le_refl _)⟩
theorem one_u8 (n : Int) : ∀ u ∈ [Value.int .u8 n], u.oneCell' = true := by
  intro u hu; simp at hu; subst hu; rfl
theorem bytes_app (a b : Array UInt8) : (⟨a⟩ : ByteArray) ++ ⟨b⟩ = ⟨a ++ b⟩ := by
  apply ByteArray.ext
  rw [ByteArray.data_append]
theorem byte_at (s : ByteArray) (k : Nat) (h : k < s.size) (w : World) : (Instr.index 9 (.string s) (.int .i64 (k : Int))).run Tryz.prog w = .ok (.int .u8 ((s[k].toNat : Nat) : Int)) w := by
  rw [run_index_string w 9 s .i64 k Tryz.underlying9]
  simp [h]
theorem byte_get (s : ByteArray) (k : Nat) (h : k < s.size) (w : World) : (Instr.index 9 (.string s) (.int .i64 (k : Int))).run Tryz.prog w = .ok (.int .u8 (((s.data.toList.getD k 0).toNat : Nat) : Int)) w := by
  rw [run_index_string w 9 s .i64 k Tryz.underlying9]
  have h2 : k < s.data.size := h
  have e : s[k] = s.data.toList.getD k 0 := by
    rw [List.getD_eq_getElem?_getD, Array.getElem?_toList, Array.getElem?_eq_getElem h2]; rfl
  simp [h, e]
end Go.Proofs.YtdjpghgnjcmdnaaGreatDoor

/- The stream as plain mathematics of words: a quarter round, a double round, a block, a text taken together with blocks. -/
namespace Go.Proofs.YtdjpghgnjcmdnaaGreatDoor
open Go

/-- A word turned to the left. -/
def rl (x : BitVec 32) (k : Nat) : BitVec 32 := x <<< k ||| x >>> (32 - k)
/-- Word b is added to word a. -/
def sAdd (L : List (BitVec 32)) (a b : Nat) : List (BitVec 32) := L.set a (wd L a + wd L b)
/-- Word a is taken together with word d, and that is turned. -/
def sRot (L : List (BitVec 32)) (d a k : Nat) : List (BitVec 32) := L.set d (rl (wd L d ^^^ wd L a) k)
/-- Half a quarter round. -/
def qh (L : List (BitVec 32)) (a b c d p q : Nat) : List (BitVec 32) := sRot (sAdd (sRot (sAdd L a b) d a p) c d) b c q
/-- A quarter round. -/
def qr (L : List (BitVec 32)) (a b c d : Nat) : List (BitVec 32) := qh (qh L a b c d 16 12) a b c d 8 7
theorem sAdd_len (L : List (BitVec 32)) (a b : Nat) : (sAdd L a b).length = L.length := by simp [sAdd]
theorem sRot_len (L : List (BitVec 32)) (d a k : Nat) : (sRot L d a k).length = L.length := by simp [sRot]
theorem qh_len (L : List (BitVec 32)) (a b c d p q : Nat) : (qh L a b c d p q).length = L.length := by simp [qh, sAdd_len, sRot_len]
theorem qr_len (L : List (BitVec 32)) (a b c d : Nat) : (qr L a b c d).length = L.length := by simp [qr, qh_len]
/-- The first k columns. -/
def colTo (L : List (BitVec 32)) : Nat → List (BitVec 32)
  | 0 => L
  | k + 1 => qr (colTo L k) k (4 + k) (8 + k) (12 + k)
/-- The first k diagonals. -/
def diaTo (L : List (BitVec 32)) : Nat → List (BitVec 32)
  | 0 => L
  | k + 1 => qr (diaTo L k) k (4 + (k + 1) % 4) (8 + (k + 2) % 4) (12 + (k + 3) % 4)
theorem colTo_len (L : List (BitVec 32)) (k : Nat) : (colTo L k).length = L.length := by
  induction k with
  | zero => rfl
  | succ k ih => simp [colTo, qr_len, ih]
theorem diaTo_len (L : List (BitVec 32)) (k : Nat) : (diaTo L k).length = L.length := by
  induction k with
  | zero => rfl
  | succ k ih => simp [diaTo, qr_len, ih]
/-- A double round. -/
def dbl (L : List (BitVec 32)) : List (BitVec 32) := diaTo (colTo L 4) 4
/-- So many double rounds. -/
def dblTo (L : List (BitVec 32)) : Nat → List (BitVec 32)
  | 0 => L
  | k + 1 => dbl (dblTo L k)
theorem dbl_len (L : List (BitVec 32)) : (dbl L).length = L.length := by simp [dbl, diaTo_len, colTo_len]
theorem dblTo_len (L : List (BitVec 32)) (k : Nat) : (dblTo L k).length = L.length := by
  induction k with
  | zero => rfl
  | succ k ih => simp [dblTo, dbl_len, ih]

/-- Four bytes as a word, the smallest first. -/
def lword4 (p q r s : UInt8) : BitVec 32 := bw p ||| bw q <<< 8 ||| bw r <<< 16 ||| bw s <<< 24
/-- The k-th word of a text. -/
def lwordAt (l : List UInt8) (k : Nat) : BitVec 32 := lword4 (l.getD (4 * k) 0) (l.getD (4 * k + 1) 0) (l.getD (4 * k + 2) 0) (l.getD (4 * k + 3) 0)
/-- The text that is always there. -/
def sigma : List UInt8 := [101, 120, 112, 97, 110, 100, 32, 51, 50, 45, 98, 121, 116, 101, 32, 107]
/-- Sixteen words: the text that is always there, a key, a number, a nonce. -/
def first (key : List UInt8) (n : BitVec 32) (nonce : List UInt8) : List (BitVec 32) :=
  (List.range 4).map (lwordAt sigma) ++ ((List.range 8).map (lwordAt key) ++ (n :: (List.range 3).map (lwordAt nonce)))
theorem first_len (key : List UInt8) (n : BitVec 32) (nonce : List UInt8) : (first key n nonce).length = 16 := by simp [first]
/-- A word's four bytes, the smallest first. -/
def lbytes4 (x : BitVec 32) : List UInt8 := [UInt8.ofNat x.toNat, UInt8.ofNat (x.toNat / 256), UInt8.ofNat (x.toNat / 65536), UInt8.ofNat (x.toNat / 16777216)]
/-- The bytes of the first k words of two lists, added. -/
def outTo (W F : List (BitVec 32)) (k : Nat) : List UInt8 := (List.range k).flatMap fun i => lbytes4 (wd W i + wd F i)
theorem outTo_succ (W F : List (BitVec 32)) (k : Nat) : outTo W F (k + 1) = outTo W F k ++ lbytes4 (wd W k + wd F k) := by
  simp [outTo, List.range_succ, List.flatMap_append]
theorem outTo_len (W F : List (BitVec 32)) (k : Nat) : (outTo W F k).length = 4 * k := by
  induction k with
  | zero => rfl
  | succ k ih => rw [outTo_succ, List.length_append, ih]; simp [lbytes4]; omega
/-- A block. -/
def blockL (key : List UInt8) (n : BitVec 32) (nonce : List UInt8) : List UInt8 := outTo (dblTo (first key n nonce) 10) (first key n nonce) 16
theorem blockL_len (key : List UInt8) (n : BitVec 32) (nonce : List UInt8) : (blockL key n nonce).length = 64 := outTo_len _ _ 16
/-- Byte i of the blocks from number 1 on. -/
def keyAt (key nonce : List UInt8) (i : Nat) : UInt8 := (blockL key (BitVec.ofNat 32 (1 + i / 64)) nonce).getD (i % 64) 0
/-- The first k bytes of a text taken together with the blocks, the others as they are. -/
def xorTo (key nonce l : List UInt8) (k : Nat) : List UInt8 := (List.range l.length).map fun i => if i < k then l.getD i 0 ^^^ keyAt key nonce i else l.getD i 0
/-- A text taken together with the blocks. -/
def xorL (key nonce l : List UInt8) : List UInt8 := xorTo key nonce l l.length
theorem xorTo_len (key nonce l : List UInt8) (k : Nat) : (xorTo key nonce l k).length = l.length := by simp [xorTo]
theorem xorTo_zero (key nonce l : List UInt8) : xorTo key nonce l 0 = l := by
  apply List.ext_getElem
  · simp [xorTo]
  · intro i h1 h2
    simp [xorTo, h2]
theorem xorTo_succ (key nonce l : List UInt8) (k : Nat) : (xorTo key nonce l k).set k (l.getD k 0 ^^^ keyAt key nonce k) = xorTo key nonce l (k + 1) := by
  apply List.ext_getElem
  · simp [xorTo]
  · intro i h1 h2
    rw [List.getElem_set]
    by_cases hk : k = i
    · subst hk; simp [xorTo]
    · simp only [xorTo, List.getElem_map, List.getElem_range, if_neg hk]
      by_cases h3 : i < k
      · rw [if_pos h3, if_pos (by omega)]
      · rw [if_neg h3, if_neg (by omega)]
theorem xorTo_at (key nonce l : List UInt8) (k i : Nat) (h : i < l.length) (hk : k ≤ i) : (xorTo key nonce l k).getD i 0 = l.getD i 0 := by
  have : ¬ i < k := by omega
  simp [xorTo, h, this]
end Go.Proofs.YtdjpghgnjcmdnaaGreatDoor

/- Turning a word to the left: the program's own way (the library's RotateLeft32) at the four counts that it is called with. -/
namespace Go.Proofs.YtdjpghgnjcmdnaaGreatDoor
open Go.RowKit
set_option maxHeartbeats 400000 in
theorem left_16 (x : BitVec 32) (w : World) :
    Calls Tryz.prog 220 #[.int .u32 (N x), .int .i64 16] w fun e w' => e = .returned (.int .u32 (N (rl x 16))) ∧ w' = w := by
  have hb : bits .and .u64 16 31 = 16 := by decide +kernel
  have r0 : (N x * (65536 : Int) % (4294967296 : Int)) = N (x <<< 16) := N_shlm x 16
  have r1 : (N x / (65536 : Int)) = N (x >>> 16) := N_shr x 16
  have r2 := N_or
  go_enter Tryz.func220, Tryz.ntmps220
  go_wp2
  go_ret
  exact ⟨ret_val (by show Value.int .u32 (N (x <<< 16 ||| x >>> 16)) = _; rfl), rfl⟩
set_option maxHeartbeats 400000 in
theorem left_12 (x : BitVec 32) (w : World) :
    Calls Tryz.prog 220 #[.int .u32 (N x), .int .i64 12] w fun e w' => e = .returned (.int .u32 (N (rl x 12))) ∧ w' = w := by
  have hb : bits .and .u64 12 31 = 12 := by decide +kernel
  have r0 : (N x * (4096 : Int) % (4294967296 : Int)) = N (x <<< 12) := N_shlm x 12
  have r1 : (N x / (1048576 : Int)) = N (x >>> 20) := N_shr x 20
  have r2 := N_or
  go_enter Tryz.func220, Tryz.ntmps220
  go_wp2
  go_ret
  exact ⟨ret_val (by show Value.int .u32 (N (x <<< 12 ||| x >>> 20)) = _; rfl), rfl⟩
set_option maxHeartbeats 400000 in
theorem left_8 (x : BitVec 32) (w : World) :
    Calls Tryz.prog 220 #[.int .u32 (N x), .int .i64 8] w fun e w' => e = .returned (.int .u32 (N (rl x 8))) ∧ w' = w := by
  have hb : bits .and .u64 8 31 = 8 := by decide +kernel
  have r0 : (N x * (256 : Int) % (4294967296 : Int)) = N (x <<< 8) := N_shlm x 8
  have r1 : (N x / (16777216 : Int)) = N (x >>> 24) := N_shr x 24
  have r2 := N_or
  go_enter Tryz.func220, Tryz.ntmps220
  go_wp2
  go_ret
  exact ⟨ret_val (by show Value.int .u32 (N (x <<< 8 ||| x >>> 24)) = _; rfl), rfl⟩
set_option maxHeartbeats 400000 in
theorem left_7 (x : BitVec 32) (w : World) :
    Calls Tryz.prog 220 #[.int .u32 (N x), .int .i64 7] w fun e w' => e = .returned (.int .u32 (N (rl x 7))) ∧ w' = w := by
  have hb : bits .and .u64 7 31 = 7 := by decide +kernel
  have r0 : (N x * (128 : Int) % (4294967296 : Int)) = N (x <<< 7) := N_shlm x 7
  have r1 : (N x / (33554432 : Int)) = N (x >>> 25) := N_shr x 25
  have r2 := N_or
  go_enter Tryz.func220, Tryz.ntmps220
  go_wp2
  go_ret
  exact ⟨ret_val (by show Value.int .u32 (N (x <<< 7 ||| x >>> 25)) = _; rfl), rfl⟩
end Go.Proofs.YtdjpghgnjcmdnaaGreatDoor
