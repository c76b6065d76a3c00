/- The sum as plain mathematics of words: the schedule of a block, one turn, the mixing of a block. -/
import Derived.Test.YtdoakaadpfheaaaDoorBase
import Derived.Test.YtdoakaadpfheaaaDoorWords
namespace Go.Proofs.YtdoakaadpfheaaaDoor
open Go

/-- Eight words. -/
structure St where
  a : BitVec 32
  b : BitVec 32
  c : BitVec 32
  d : BitVec 32
  e : BitVec 32
  f : BitVec 32
  g : BitVec 32
  h : BitVec 32

def tA (s : St) (m : BitVec 32) : BitVec 32 := s.h + (rr s.e 6 ^^^ rr s.e 11 ^^^ rr s.e 25) + (s.e &&& s.f ^^^ ~~~s.e &&& s.g) + m
def tB (s : St) : BitVec 32 := (rr s.a 2 ^^^ rr s.a 13 ^^^ rr s.a 22) + (s.a &&& s.b ^^^ s.a &&& s.c ^^^ s.b &&& s.c)
/-- One turn. -/
def step (s : St) (m : BitVec 32) : St := ⟨tA s m + tB s, s.a, s.b, s.c, s.d + tA s m, s.e, s.f, s.g⟩
def St.add (s t : St) : St := ⟨s.a + t.a, s.b + t.b, s.c + t.c, s.d + t.d, s.e + t.e, s.f + t.f, s.g + t.g, s.h + t.h⟩

theorem N_shr3 (x : BitVec 32) : N x / (8 : Int) = N (x >>> 3) := N_shr x 3
theorem N_shr10 (x : BitVec 32) : N x / (1024 : Int) = N (x >>> 10) := N_shr x 10
/-- Four bytes as a word, the greatest first. -/
def word4 (p q r s : UInt8) : BitVec 32 := bw p <<< 24 ||| bw q <<< 16 ||| bw r <<< 8 ||| bw s
/-- The k-th word of a text. -/
def wordAt (l : List UInt8) (k : Nat) : BitVec 32 := word4 (l.getD (4 * k) 0) (l.getD (4 * k + 1) 0) (l.getD (4 * k + 2) 0) (l.getD (4 * k + 3) 0)
/-- The first k words of a block, the others nought. -/
def sch0 (l : List UInt8) (k : Nat) : List (BitVec 32) := (List.range k).map (wordAt l) ++ List.replicate (64 - k) 0
/-- A later word of the schedule. -/
def nxt (L : List (BitVec 32)) (k : Nat) : BitVec 32 :=
  wd L k + wd L (k + 9) + (rr (wd L (k + 1)) 7 ^^^ rr (wd L (k + 1)) 18 ^^^ (wd L (k + 1)) >>> 3) + (rr (wd L (k + 14)) 17 ^^^ rr (wd L (k + 14)) 19 ^^^ (wd L (k + 14)) >>> 10)
def schT (l : List UInt8) : Nat → List (BitVec 32)
  | 0 => sch0 l 16
  | k + 1 => (schT l k).set (k + 16) (nxt (schT l k) k)
/-- The schedule of a block. -/
def sched (l : List UInt8) : List (BitVec 32) := schT l 48
theorem sch0_len (l : List UInt8) (k : Nat) (h : k ≤ 64) : (sch0 l k).length = 64 := by simp [sch0]; omega
theorem schT_len (l : List UInt8) (k : Nat) : (schT l k).length = 64 := by
  induction k with
  | zero => exact sch0_len l 16 (by omega)
  | succ k ih => simp [schT, ih]
theorem sched_len (l : List UInt8) : (sched l).length = 64 := schT_len l 48
theorem sch0_succ (l : List UInt8) (k : Nat) (h : k < 64) : (sch0 l k).set k (wordAt l k) = sch0 l (k + 1) := by
  unfold sch0
  rw [List.set_append_right _ _ (by simp)]
  have e : 64 - k = (64 - (k + 1)) + 1 := by omega
  rw [e, List.replicate_succ, List.range_succ]
  simp

/-- The eight words in their order. -/
def St.l (s : St) : List (BitVec 32) := [s.a, s.b, s.c, s.d, s.e, s.f, s.g, s.h]
/-- The numbers of the turns. -/
def kNat : List Nat := [1116352408, 1899447441, 3049323471, 3921009573, 961987163, 1508970993, 2453635748, 2870763221, 3624381080, 310598401, 607225278, 1426881987, 1925078388, 2162078206, 2614888103, 3248222580, 3835390401, 4022224774, 264347078, 604807628, 770255983, 1249150122, 1555081692, 1996064986, 2554220882, 2821834349, 2952996808, 3210313671, 3336571891, 3584528711, 113926993, 338241895, 666307205, 773529912, 1294757372, 1396182291, 1695183700, 1986661051, 2177026350, 2456956037, 2730485921, 2820302411, 3259730800, 3345764771, 3516065817, 3600352804, 4094571909, 275423344, 430227734, 506948616, 659060556, 883997877, 958139571, 1322822218, 1537002063, 1747873779, 1955562222, 2024104815, 2227730452, 2361852424, 2428436474, 2756734187, 3204031479, 3329325298]
def kTab : List (BitVec 32) := kNat.map (BitVec.ofNat 32)
theorem kTab_len : kTab.length = 64 := rfl
/-- The state behind k turns. -/
def turnTo (L : List (BitVec 32)) (v : St) : Nat → St
  | 0 => v
  | k + 1 => step (turnTo L v k) (wd L k + wd kTab k)
/-- Words added place by place, the first k of them. -/
def addTo (x y : List (BitVec 32)) : Nat → List (BitVec 32)
  | 0 => x
  | k + 1 => (addTo x y k).set k (wd (addTo x y k) k + wd y k)
theorem addTo_len (x y : List (BitVec 32)) (k : Nat) : (addTo x y k).length = x.length := by
  induction k with
  | zero => rfl
  | succ k ih => simp [addTo, ih]
theorem addTo_eight (s t : St) : addTo s.l t.l 8 = (s.add t).l := rfl
/-- A block mixed into a state. -/
def mixB (s : St) (l : List UInt8) : St := s.add (turnTo (sched l) s 64)
end Go.Proofs.YtdoakaadpfheaaaDoor
