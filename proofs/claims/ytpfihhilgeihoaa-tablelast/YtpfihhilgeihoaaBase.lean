/- What the texts of the sums and of the stream share. -/
import Derived.Test.YtpfihhilgeihoaaRows
import Derived.Test.YtpfihhilgeihoaaBytes
namespace Go.Proofs.Ytpfihhilgeihoaa
open Go Go.RowKit
theorem ret_val {a b : Value} (h : a = b) : Ending.returned a = .returned b := by rw [h]

/-- A byte as a word. -/
def bw (c : UInt8) : BitVec 32 := BitVec.ofNat 32 c.toNat
theorem N_byte (c : UInt8) : ((c.toNat : Nat) : Int) % 4294967296 = N (bw c) := by
  have := c.toNat_lt
  unfold bw; rw [N_ofNat _ (by omega)]; omega
theorem N_shl24 (x : BitVec 32) : N x * (16777216 : Int) % (4294967296 : Int) = N (x <<< 24) := N_shlm x 24
theorem N_shl16 (x : BitVec 32) : N x * (65536 : Int) % (4294967296 : Int) = N (x <<< 16) := N_shlm x 16
theorem N_shl8 (x : BitVec 32) : N x * (256 : Int) % (4294967296 : Int) = N (x <<< 8) := N_shlm x 8
theorem bw_nat (c : UInt8) : (bw c).toNat = c.toNat := by
  have := c.toNat_lt
  unfold bw; rw [BitVec.toNat_ofNat]; omega
theorem nat4 (a b c d : Nat) (hb : b < 256) (hc : c < 256) (hd : d < 256) : a * 16777216 ||| b * 65536 ||| c * 256 ||| d = a * 16777216 + b * 65536 + c * 256 + d := by
  have e1 : a * 16777216 ||| b * 65536 = (a * 256 + b) <<< 16 := by
    have h := Nat.shiftLeft_add_eq_or_of_lt (a := a) (b := b) (i := 8) hb
    have h2 : (a <<< 8 ||| b) <<< 16 = a <<< 8 <<< 16 ||| b <<< 16 := Nat.shiftLeft_or_distrib
    rw [← h] at h2
    rw [Nat.shiftLeft_eq a 8, ← Nat.shiftLeft_eq a 8, ← Nat.shiftLeft_add] at h2
    rw [Nat.shiftLeft_eq a 24, Nat.shiftLeft_eq b 16, Nat.shiftLeft_eq a 8] at h2
    exact h2.symm
  have e2 : (a * 256 + b) <<< 16 ||| c * 256 = ((a * 256 + b) * 256 + c) <<< 8 := by
    have h := Nat.shiftLeft_add_eq_or_of_lt (a := a * 256 + b) (b := c) (i := 8) hc
    have h2 : ((a * 256 + b) <<< 8 ||| c) <<< 8 = (a * 256 + b) <<< 8 <<< 8 ||| c <<< 8 := Nat.shiftLeft_or_distrib
    rw [← h, ← Nat.shiftLeft_add, Nat.shiftLeft_eq (a * 256 + b) 8, Nat.shiftLeft_eq c 8] at h2
    exact h2.symm
  rw [e1, e2, ← Nat.shiftLeft_add_eq_or_of_lt (i := 8) hd, Nat.shiftLeft_eq]
  show ((a * 256 + b) * 256 + c) * 256 + d = _
  omega
theorem ext_at (s : ByteArray) (a b i : Nat) (h : i < (s.extract a b).size) : (s.extract a b)[i] = s.data.toList.getD (a + i) 0 := by
  have h2 : a + i < s.size := by rw [ByteArray.size_extract] at h; omega
  have h3 : a + i < s.data.size := h2
  rw [ByteArray.getElem_extract]
  show s.data[a + i] = _
  rw [List.getD_eq_getElem?_getD, Array.getElem?_toList, Array.getElem?_eq_getElem h3]; rfl
theorem br_one (w : World) (u : Nat) : BR (w.alloc (.cells #[.int .u8 ((u : Int) % 256)] 5)) w.heap.size 5 w.heap.size 1 1 (bytesV [UInt8.ofNat u]) :=
  ⟨rfl, Nat.le_refl _, Nat.le_refl _, _, _, heap_alloc_new w _, rfl, by simp [bytesV], .inl (Nat.le_refl _)⟩
theorem one_u8 (n : Int) : ∀ u ∈ [Value.int .u8 n], u.oneCell' = true := by
  intro u hu; simp at hu; subst hu; rfl
theorem bytes_app (a b : Array UInt8) : (⟨a⟩ : ByteArray) ++ ⟨b⟩ = ⟨a ++ b⟩ := by
  apply ByteArray.ext
  rw [ByteArray.data_append]
theorem byte_at (s : ByteArray) (k : Nat) (h : k < s.size) (w : World) : (Instr.index 9 (.string s) (.int .i64 (k : Int))).run Try.prog w = .ok (.int .u8 ((s[k].toNat : Nat) : Int)) w := by
  rw [run_index_string w 9 s .i64 k Try.underlying9]
  simp [h]
theorem byte_get (s : ByteArray) (k : Nat) (h : k < s.size) (w : World) : (Instr.index 9 (.string s) (.int .i64 (k : Int))).run Try.prog w = .ok (.int .u8 (((s.data.toList.getD k 0).toNat : Nat) : Int)) w := by
  rw [run_index_string w 9 s .i64 k Try.underlying9]
  have h2 : k < s.data.size := h
  have e : s[k] = s.data.toList.getD k 0 := by
    rw [List.getD_eq_getElem?_getD, Array.getElem?_toList, Array.getElem?_eq_getElem h2]; rfl
  simp [h, e]
end Go.Proofs.Ytpfihhilgeihoaa
