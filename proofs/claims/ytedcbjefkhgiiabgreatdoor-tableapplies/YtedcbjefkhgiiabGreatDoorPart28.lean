/- Texts of this proof, one behind the other. -/
import Derived.Test.YtedcbjefkhgiiabGreatDoorPart27
/- Two rows of cells that are the same, held against each other by the law. -/
namespace Go.Proofs.YtedcbjefkhgiiabGreatDoor
open Go.RowKit Go.Sort
attribute [local go_sem ↓] Go.wp_at_zero Go.wp_at_succ
set_option linter.unusedSectionVars false
variable [Inhabited Cl]
theorem RowC.at {w : World} {base n cap k : Nat} {p : Option Addr} {l : List Cl} (h : RowC w base (.slice p n cap) l) (hk : k < l.length) : ∃ g, p = some ⟨g, 0, none⟩ ∧ g < w.heap.size ∧ l.length ≤ cap ∧ w.cell? ⟨g, k * 4, none⟩ = some (.string l[k]!.t) ∧ w.cell? ⟨g, k * 4 + 1, none⟩ = some (.string l[k]!.r) ∧ w.cell? ⟨g, k * 4 + 2, none⟩ = some (.string l[k]!.s) ∧ w.cell? ⟨g, k * 4 + 3, none⟩ = some (.string l[k]!.v) := by
  rcases h with ⟨_, rfl⟩ | ⟨g, cap', e, h1, h2, h3, h4, h5⟩
  · simp at hk
  · injection e with e1 e2 e3
    subst e1 e3
    obtain ⟨c0, c1, c2, c3⟩ := four_of h5 (i := k) (by rw [List.size_toArray]; exact hk)
    have e : l.toArray[k]! = l[k]! := by simp
    rw [e] at c0 c1 c2 c3
    exact ⟨g, rfl, h2, h3, c0, c1, c2, c3⟩
theorem RowC.slice {w : World} {base : Nat} {v : Value} {l : List Cl} (h : RowC w base v l) : ∃ p cap, v = .slice p l.length cap := by
  rcases h with ⟨rfl, rfl⟩ | ⟨g, cap, rfl, _⟩
  · exact ⟨_, _, rfl⟩
  · exact ⟨_, _, rfl⟩
theorem below_dn {B : Nat} {a w : World} (h : Below B a w) (n : Nat) : Below B a (w.drewN n) := h.trans ⟨rfl, rfl, rfl, Nat.le_refl _, fun _ _ => rfl⟩
set_option maxHeartbeats 1000000 in
set_option maxRecDepth 100000 in
theorem sameCells_any (b1 lo : Nat) (v1 v2 : Value) (l : List Cl) (w : World) (h1 : RowC w b1 v1 l) (h2 : RefRow w lo v2 l) (hl : l.length ≤ 1000) :
    Calls Tryz.prog 14 #[v1, v2] w fun x w' => x = .returned (.bool true) ∧ Below w.heap.size w w' := by
  obtain ⟨p1, cap1, rfl⟩ := h1.slice
  obtain ⟨p2, cap2, rfl⟩ := h2.rowC
  have H1 := hide h1
  have H2 := hide h2
  have hq := fun c w => cell_neq c c w
  clear h1 h2
  go_enter Tryz.func14, Tryz.ntmps14
  go_wp2
  go_loopw [5] (fun i wr => ∃ k : Nat, i = .int .i64 k ∧ k ≤ l.length ∧ Below w.heap.size w wr) (fun i _ => l.length - (intOf i).toNat)
  case atStart => exact ⟨0, rfl, Nat.zero_le _, Below.refl _ _⟩
  case round =>
    obtain ⟨k, rfl, hk, hB⟩ := hrel
    by_cases hlt : k < l.length
    · obtain ⟨g1, rfl, hg1, hcap1, c0, c1, c2, c3⟩ := H1.out.at hlt
      obtain ⟨g2, rfl, hg2, _, hcap2, d0, d1, d2, d3⟩ := H2.out.at hlt
      generalize l[k]! = c at c0 c1 c2 c3 d0 d1 d2 d3
      rw [← hB.cell (p := ⟨g1, k * 4, none⟩) hg1] at c0
      rw [← hB.cell (p := ⟨g1, k * 4 + 1, none⟩) hg1] at c1
      rw [← hB.cell (p := ⟨g1, k * 4 + 2, none⟩) hg1] at c2
      rw [← hB.cell (p := ⟨g1, k * 4 + 3, none⟩) hg1] at c3
      rw [← hB.cell (p := ⟨g2, k * 4, none⟩) hg2] at d0
      rw [← hB.cell (p := ⟨g2, k * 4 + 1, none⟩) hg2] at d1
      rw [← hB.cell (p := ⟨g2, k * 4 + 2, none⟩) hg2] at d2
      rw [← hB.cell (p := ⟨g2, k * 4 + 3, none⟩) hg2] at d3
      have hqc := hq c
      rw [eqC_self c] at hqc
      simp only [Bool.not_true] at hqc
      have HB := hide hB
      clear hB hq
      go_wp2
      go_quiet (fail)
      go_wp2
      exact ⟨⟨k + 1, by go_num, by omega, below_dn HB.out _⟩, by simp [intOf]; omega⟩
    · have HB := hide hB
      clear hB hq
      go_wp2
      go_ret
      exact ⟨rfl, HB.out⟩
end Go.Proofs.YtedcbjefkhgiiabGreatDoor

/- The stream as plain mathematics of words: a quarter round, a double round, a block, a text taken together with blocks. -/
namespace Go.Proofs.YtedcbjefkhgiiabGreatDoor
open Go

/-- A word turned to the left. -/
def rl (x : BitVec 32) (k : Nat) : BitVec 32 := x <<< k ||| x >>> (32 - k)
/-- Word b is added to word a. -/
def sAdd (L : List (BitVec 32)) (a b : Nat) : List (BitVec 32) := L.set a (wd L a + wd L b)
/-- Word a is taken together with word d, and that is turned. -/
def sRot (L : List (BitVec 32)) (d a k : Nat) : List (BitVec 32) := L.set d (rl (wd L d ^^^ wd L a) k)
/-- Half a quarter round. -/
def qh (L : List (BitVec 32)) (a b c d p q : Nat) : List (BitVec 32) := sRot (sAdd (sRot (sAdd L a b) d a p) c d) b c q
/-- A quarter round. -/
def qr (L : List (BitVec 32)) (a b c d : Nat) : List (BitVec 32) := qh (qh L a b c d 16 12) a b c d 8 7
theorem sAdd_len (L : List (BitVec 32)) (a b : Nat) : (sAdd L a b).length = L.length := by simp [sAdd]
theorem sRot_len (L : List (BitVec 32)) (d a k : Nat) : (sRot L d a k).length = L.length := by simp [sRot]
theorem qh_len (L : List (BitVec 32)) (a b c d p q : Nat) : (qh L a b c d p q).length = L.length := by simp [qh, sAdd_len, sRot_len]
theorem qr_len (L : List (BitVec 32)) (a b c d : Nat) : (qr L a b c d).length = L.length := by simp [qr, qh_len]
/-- The first k columns. -/
def colTo (L : List (BitVec 32)) : Nat → List (BitVec 32)
  | 0 => L
  | k + 1 => qr (colTo L k) k (4 + k) (8 + k) (12 + k)
/-- The first k diagonals. -/
def diaTo (L : List (BitVec 32)) : Nat → List (BitVec 32)
  | 0 => L
  | k + 1 => qr (diaTo L k) k (4 + (k + 1) % 4) (8 + (k + 2) % 4) (12 + (k + 3) % 4)
theorem colTo_len (L : List (BitVec 32)) (k : Nat) : (colTo L k).length = L.length := by
  induction k with
  | zero => rfl
  | succ k ih => simp [colTo, qr_len, ih]
theorem diaTo_len (L : List (BitVec 32)) (k : Nat) : (diaTo L k).length = L.length := by
  induction k with
  | zero => rfl
  | succ k ih => simp [diaTo, qr_len, ih]
/-- A double round. -/
def dbl (L : List (BitVec 32)) : List (BitVec 32) := diaTo (colTo L 4) 4
/-- So many double rounds. -/
def dblTo (L : List (BitVec 32)) : Nat → List (BitVec 32)
  | 0 => L
  | k + 1 => dbl (dblTo L k)
theorem dbl_len (L : List (BitVec 32)) : (dbl L).length = L.length := by simp [dbl, diaTo_len, colTo_len]
theorem dblTo_len (L : List (BitVec 32)) (k : Nat) : (dblTo L k).length = L.length := by
  induction k with
  | zero => rfl
  | succ k ih => simp [dblTo, dbl_len, ih]

/-- Four bytes as a word, the smallest first. -/
def lword4 (p q r s : UInt8) : BitVec 32 := bw p ||| bw q <<< 8 ||| bw r <<< 16 ||| bw s <<< 24
/-- The k-th word of a text. -/
def lwordAt (l : List UInt8) (k : Nat) : BitVec 32 := lword4 (l.getD (4 * k) 0) (l.getD (4 * k + 1) 0) (l.getD (4 * k + 2) 0) (l.getD (4 * k + 3) 0)
/-- The text that is always there. -/
def sigma : List UInt8 := [101, 120, 112, 97, 110, 100, 32, 51, 50, 45, 98, 121, 116, 101, 32, 107]
/-- Sixteen words: the text that is always there, a key, a number, a nonce. -/
def first (key : List UInt8) (n : BitVec 32) (nonce : List UInt8) : List (BitVec 32) :=
  (List.range 4).map (lwordAt sigma) ++ ((List.range 8).map (lwordAt key) ++ (n :: (List.range 3).map (lwordAt nonce)))
theorem first_len (key : List UInt8) (n : BitVec 32) (nonce : List UInt8) : (first key n nonce).length = 16 := by simp [first]
/-- A word's four bytes, the smallest first. -/
def lbytes4 (x : BitVec 32) : List UInt8 := [UInt8.ofNat x.toNat, UInt8.ofNat (x.toNat / 256), UInt8.ofNat (x.toNat / 65536), UInt8.ofNat (x.toNat / 16777216)]
/-- The bytes of the first k words of two lists, added. -/
def outTo (W F : List (BitVec 32)) (k : Nat) : List UInt8 := (List.range k).flatMap fun i => lbytes4 (wd W i + wd F i)
theorem outTo_succ (W F : List (BitVec 32)) (k : Nat) : outTo W F (k + 1) = outTo W F k ++ lbytes4 (wd W k + wd F k) := by
  simp [outTo, List.range_succ, List.flatMap_append]
theorem outTo_len (W F : List (BitVec 32)) (k : Nat) : (outTo W F k).length = 4 * k := by
  induction k with
  | zero => rfl
  | succ k ih => rw [outTo_succ, List.length_append, ih]; simp [lbytes4]; omega
/-- A block. -/
def blockL (key : List UInt8) (n : BitVec 32) (nonce : List UInt8) : List UInt8 := outTo (dblTo (first key n nonce) 10) (first key n nonce) 16
theorem blockL_len (key : List UInt8) (n : BitVec 32) (nonce : List UInt8) : (blockL key n nonce).length = 64 := outTo_len _ _ 16
/-- Byte i of the blocks from number 1 on. -/
def keyAt (key nonce : List UInt8) (i : Nat) : UInt8 := (blockL key (BitVec.ofNat 32 (1 + i / 64)) nonce).getD (i % 64) 0
/-- The first k bytes of a text taken together with the blocks, the others as they are. -/
def xorTo (key nonce l : List UInt8) (k : Nat) : List UInt8 := (List.range l.length).map fun i => if i < k then l.getD i 0 ^^^ keyAt key nonce i else l.getD i 0
/-- A text taken together with the blocks. -/
def xorL (key nonce l : List UInt8) : List UInt8 := xorTo key nonce l l.length
theorem xorTo_len (key nonce l : List UInt8) (k : Nat) : (xorTo key nonce l k).length = l.length := by simp [xorTo]
theorem xorTo_zero (key nonce l : List UInt8) : xorTo key nonce l 0 = l := by
  apply List.ext_getElem
  · simp [xorTo]
  · intro i h1 h2
    simp [xorTo, h2]
theorem xorTo_succ (key nonce l : List UInt8) (k : Nat) : (xorTo key nonce l k).set k (l.getD k 0 ^^^ keyAt key nonce k) = xorTo key nonce l (k + 1) := by
  apply List.ext_getElem
  · simp [xorTo]
  · intro i h1 h2
    rw [List.getElem_set]
    by_cases hk : k = i
    · subst hk; simp [xorTo]
    · simp only [xorTo, List.getElem_map, List.getElem_range, if_neg hk]
      by_cases h3 : i < k
      · rw [if_pos h3, if_pos (by omega)]
      · rw [if_neg h3, if_neg (by omega)]
theorem xorTo_at (key nonce l : List UInt8) (k i : Nat) (h : i < l.length) (hk : k ≤ i) : (xorTo key nonce l k).getD i 0 = l.getD i 0 := by
  have : ¬ i < k := by omega
  simp [xorTo, h, this]
end Go.Proofs.YtedcbjefkhgiiabGreatDoor
