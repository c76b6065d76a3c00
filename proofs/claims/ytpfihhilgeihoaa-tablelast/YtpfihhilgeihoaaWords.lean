/- Words of 32 bits as the walks spell them: a word is 'N x' for x a bit vector; what the program's operations on words come to. -/
import Derived.Laws.BitsAllLaws
import Derived.Laws.Entries
namespace Go.Proofs.Ytpfihhilgeihoaa
open Go

/-- The number of a word. -/
def N (x : BitVec 32) : Int := (x.toNat : Int)

theorem N_nonneg (x : BitVec 32) : 0 ≤ N x := by unfold N; omega
theorem N_lt (x : BitVec 32) : N x < 4294967296 := by unfold N; have := x.isLt; omega
theorem ofInt_N (x : BitVec 32) : BitVec.ofInt 32 (N x) = x := by
  unfold N; rw [BitVec.ofInt_natCast]; simp
theorem wrapN (n : Int) : IntKind.u32.wrap n = N (BitVec.ofInt 32 n) := by
  rw [IntKind.wrap_u32']; unfold N; rw [BitVec.toNat_ofInt]; omega
theorem N_xor (x y : BitVec 32) : bits .xor .u32 (N x) (N y) = N (x ^^^ y) := by
  show IntKind.u32.wrap ((BitVec.ofInt 32 (N x) ^^^ BitVec.ofInt 32 (N y)).toNat : Int) = _
  rw [ofInt_N, ofInt_N, wrapN]; exact congrArg N (ofInt_N _)
theorem N_and (x y : BitVec 32) : bits .and .u32 (N x) (N y) = N (x &&& y) := by
  show IntKind.u32.wrap ((BitVec.ofInt 32 (N x) &&& BitVec.ofInt 32 (N y)).toNat : Int) = _
  rw [ofInt_N, ofInt_N, wrapN]; exact congrArg N (ofInt_N _)
theorem N_or (x y : BitVec 32) : bits .or .u32 (N x) (N y) = N (x ||| y) := by
  show IntKind.u32.wrap ((BitVec.ofInt 32 (N x) ||| BitVec.ofInt 32 (N y)).toNat : Int) = _
  rw [ofInt_N, ofInt_N, wrapN]; exact congrArg N (ofInt_N _)
theorem N_add (x y : BitVec 32) : IntKind.u32.wrap (N x + N y) = N (x + y) := by
  rw [wrapN, BitVec.ofInt_add, ofInt_N, ofInt_N]
theorem N_shr (x : BitVec 32) (k : Nat) : N x / 2 ^ k = N (x >>> k) := by
  unfold N; rw [BitVec.toNat_ushiftRight, Nat.shiftRight_eq_div_pow]; simp
theorem N_shl (x : BitVec 32) (k : Nat) : IntKind.u32.wrap (N x * 2 ^ k) = N (x <<< k) := by
  rw [IntKind.wrap_u32']; unfold N; rw [BitVec.toNat_shiftLeft, Nat.shiftLeft_eq]; simp
theorem N_addm (x y : BitVec 32) : (N x + N y) % 4294967296 = N (x + y) := by
  rw [← IntKind.wrap_u32']; exact N_add x y
theorem N_shlm (x : BitVec 32) (k : Nat) : N x * 2 ^ k % 4294967296 = N (x <<< k) := by
  rw [← IntKind.wrap_u32']; exact N_shl x k
theorem xor_ones (x : BitVec 32) : BitVec.allOnes 32 ^^^ x = ~~~x := by
  apply BitVec.eq_of_getLsbD_eq
  intro i hi
  rw [BitVec.getLsbD_xor, BitVec.getLsbD_allOnes, BitVec.getLsbD_not]
  simp [hi]
theorem N_not (x : BitVec 32) : bits .xor .u32 IntKind.u32.max (N x) = N (~~~x) := by
  have e : IntKind.u32.max = N (BitVec.allOnes 32) := by decide +kernel
  rw [e, N_xor, xor_ones]
theorem N_add3 (x y z : BitVec 32) : (N x + N y + N z) % 4294967296 = N (x + y + z) := by
  rw [← N_addm (x + y) z, ← N_addm x y]; omega
theorem N_add4 (x y z t : BitVec 32) : (N x + N y + N z + N t) % 4294967296 = N (x + y + z + t) := by
  rw [← N_addm (x + y + z) t, ← N_add3 x y z]; omega
theorem N_add5 (x y z t u : BitVec 32) : (N x + N y + N z + N t + N u) % 4294967296 = N (x + y + z + t + u) := by
  rw [← N_addm (x + y + z + t) u, ← N_add4 x y z t]; omega
theorem N_add12 (x y z : BitVec 32) : (N x + (N y + N z)) % 4294967296 = N (x + (y + z)) := by
  rw [← N_addm x (y + z), ← N_addm y z]; omega
theorem N_add13 (x y z t : BitVec 32) : (N x + (N y + N z + N t)) % 4294967296 = N (x + (y + z + t)) := by
  rw [← N_addm x (y + z + t), ← N_add3 y z t]; omega
theorem N_zero : N 0 = 0 := rfl
theorem N_inj {x y : BitVec 32} (h : N x = N y) : x = y := by
  have := congrArg (BitVec.ofInt 32) h; rwa [ofInt_N, ofInt_N] at this
theorem N_ofNat (n : Nat) (h : n < 4294967296) : N (BitVec.ofNat 32 n) = (n : Int) := by
  unfold N; rw [BitVec.toNat_ofNat, Nat.mod_eq_of_lt (by omega)]

/-- The i-th of some words; nought beyond them. -/
def wd (l : List (BitVec 32)) (i : Nat) : BitVec 32 := l.getD i 0
theorem wd_set_same (l : List (BitVec 32)) (i : Nat) (x : BitVec 32) (h : i < l.length) : wd (l.set i x) i = x := by simp [wd, h]
theorem wd_set_other (l : List (BitVec 32)) (i j : Nat) (x : BitVec 32) (h : i ≠ j) : wd (l.set i x) j = wd l j := by
  simp [wd, List.getElem?_set_ne h]

/-- A word turned to the right. -/
def rr (x : BitVec 32) (k : Nat) : BitVec 32 := x <<< (32 - k) ||| x >>> k
theorem rr_add (x : BitVec 32) (k : Nat) (_h : k ≤ 32) : x >>> k + x <<< (32 - k) = rr x k := by
  unfold rr
  rw [BitVec.or_comm]
  refine BitVec.add_eq_or_of_and_eq_zero _ _ ?_
  apply BitVec.eq_of_getLsbD_eq
  intro i hi
  simp [BitVec.getLsbD_shiftLeft]
  intro h1 _ h3
  rw [BitVec.getLsbD_of_ge x (k + i) (by omega)] at h1
  exact absurd h1 (by simp)
end Go.Proofs.Ytpfihhilgeihoaa
