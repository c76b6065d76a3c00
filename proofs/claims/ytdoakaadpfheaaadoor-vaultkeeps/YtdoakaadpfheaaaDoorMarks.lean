/- A mark as a text; texts held against each other. -/
import Derived.Test.YtdoakaadpfheaaaDoorMark
namespace Go.Proofs.YtdoakaadpfheaaaDoor
open Go.RowKit
attribute [local go_sem ↓] Go.wp_at_zero Go.wp_at_succ
def markB (kind : UInt8) (ps : List ByteArray) : ByteArray := (⟨(sha (markTo kind ps ps.length)).toArray⟩ : ByteArray).extract 0 16
theorem markB_size (kind : UInt8) (ps : List ByteArray) : (markB kind ps).size = 16 := by
  have hlen : (⟨(sha (markTo kind ps ps.length)).toArray⟩ : ByteArray).size = 32 := by
    show (sha (markTo kind ps ps.length)).length = 32
    unfold sha stBytes
    rfl
  unfold markB
  rw [ByteArray.size_extract, hlen]
  rfl
theorem lists_ne {a b : ByteArray} (h : a ≠ b) : (a.toList == b.toList) = false := by
  rw [beq_eq_false_iff_ne]
  intro e
  rw [ByteArray.toList_eq, ByteArray.toList_eq] at e
  exact h (ByteArray.ext (Array.toList_inj.1 e))
theorem lists_eq {a b : ByteArray} (h : a = b) : (a.toList == b.toList) = true := by rw [h]; simp
end Go.Proofs.YtdoakaadpfheaaaDoor
