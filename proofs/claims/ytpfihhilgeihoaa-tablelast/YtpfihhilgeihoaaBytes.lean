/- Bytes: the laws for the program's own slices of bytes, of words of 64 bits and of numbers. -/
import Derived.Test.YtpfihhilgeihoaaRows
import Derived.Test.YtpfihhilgeihoaaSlices
namespace Go.Proofs.Ytpfihhilgeihoaa
open Go Go.RowKit

theorem Try.info5' : (Try.prog.info? 5).map (fun i => (i.zero, i.size, i.bytes)) = some (some (.int .u8 0), 1, 1) := by kernel_rfl
theorem Try.info38' : (Try.prog.info? 82).map (fun i => (i.zero, i.size, i.bytes)) = some (some (.int .u64 0), 1, 8) := by kernel_rfl
theorem Try.info3' : (Try.prog.info? 3).map (fun i => (i.zero, i.size, i.bytes)) = some (some (.int .i64 0), 1, 8) := by kernel_rfl
theorem elemB : ∃ i, Elem Try.prog 56 5 i (.int .u8 0) 1 := by
  obtain ⟨i, hi, h0, h1, h2⟩ := info_parts Try.info5'
  exact ⟨i, Try.underlying56, hi, h0, h1, h2, rfl, by omega⟩
theorem elemI : ∃ i, Elem Try.prog 94 3 i (.int .i64 0) 8 := by
  obtain ⟨i, hi, h0, h1, h2⟩ := info_parts Try.info3'
  exact ⟨i, Try.underlying94, hi, h0, h1, h2, rfl, by omega⟩

/-- Bytes as cells. -/
def bytesV (l : List UInt8) : List Value := l.map fun c => Value.int .u8 (c.toNat : Int)
theorem bytesV_len (l : List UInt8) : (bytesV l).length = l.length := by simp [bytesV]
theorem bytesV_app (l m : List UInt8) : bytesV (l ++ m) = bytesV l ++ bytesV m := by simp [bytesV]
theorem bytesV_one (l : List UInt8) : ∀ u ∈ bytesV l, u.oneCell' = true := by
  intro u hu
  simp only [bytesV, List.mem_map] at hu
  obtain ⟨c, _, rfl⟩ := hu
  rfl

/-- A text turned into bytes. -/
theorem conv_in {ops : Array Oper} {rest : List Oper} {a : Act} {w : World} {Q : Exit → Act → World → Prop} {tt : TypeId} {pos : String} {af : Array Edge} {x : Operand} {d : Tmp} (s : ByteArray) (hx : a.eval x = .string s)
    (h : ∀ cap w', BR w' w.heap.size 5 w.heap.size s.size cap (bytesV s.data.toList) → w.grownBy w' none → w'.heap.size = w.heap.size + 1 → wpList Try.prog ops Q rest (a.put (some d) (.slice (some ⟨w.heap.size, 0, none⟩) s.size cap)) w') :
    wpList Try.prog ops Q (⟨some d, .convert 9 56 x, tt, pos, af, none⟩ :: rest) a w := by
  refine wpList_plain rfl fun K hK => ?_
  unfold Oper.wp execOp
  simp only [hx, Sem.run_bind, run_bytes_of_string w 9 56 5 s Try.underlying9 Try.underlying56 Try.underlying5, Result.andThen_ok, Sem.run_pure]
  refine hK _ _ (h _ _ ⟨by rw [bytesV_len]; rfl, Nat.le_refl _, grownCap_ge _ _ _ _, ?_⟩ ?_ ?_)
  · refine ⟨_, _, heap_alloc_new _ _, ?_, ?_, ?_⟩
    · have := grownCap_ge w s.size 0 5
      have e : s.data.size = s.size := rfl
      simp [bytesRow]; omega
    · have e : s.data.size = s.size := rfl
      simp only [bytesRow, Array.toList_append, Array.toList_map]
      rw [List.take_append_of_le_length (by simp [e]), List.take_of_length_le (by simp [e])]
      rfl
    · right
      have := grownCap_ge w s.size 0 5
      have e : s.data.size = s.size := rfl
      simp [bytesRow]; omega
  · exact ⟨rfl, rfl, rfl, by simp, fun k hk _ => Below.heap_alloc w.drew _ k hk⟩
  · simp
/-- Bytes turned into a text. -/
theorem conv_out {ops : Array Oper} {rest : List Oper} {a : Act} {w : World} {Q : Exit → Act → World → Prop} {tt : TypeId} {pos : String} {af : Array Edge} {x : Operand} {d : Tmp} {base : Nat} (g n cap : Nat) (l : List UInt8) (hx : a.eval x = .slice (some ⟨g, 0, none⟩) n cap)
    (hr : BR w base 5 g n cap (bytesV l)) (h : wpList Try.prog ops Q rest (a.put (some d) (.string ⟨l.toArray⟩)) w) :
    wpList Try.prog ops Q (⟨some d, .convert 56 9 x, tt, pos, af, none⟩ :: rest) a w := by
  refine wpList_plain rfl fun K hK => ?_
  have hl : n = l.length := by rw [← hr.len, bytesV_len]
  subst hl
  have hrun := run_convert_bytes_back (P := Try.prog) w 56 9 5 ⟨g, 0, none⟩ cap l Try.underlying56 Try.underlying5 Try.underlying9 (fun j hj => by
    have hadd : (⟨g, 0, none⟩ : Addr).add j = ⟨g, j, none⟩ := by unfold Addr.add; split <;> simp_all
    rw [hadd, hr.cell j hj]
    simp [bytesV, hj])
  unfold Oper.wp execOp
  simp only [hx, Sem.run_bind, hrun, Result.andThen_ok, Sem.run_pure]
  exact hK _ _ h
end Go.Proofs.Ytpfihhilgeihoaa
