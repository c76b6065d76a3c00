/- A text appended to bytes: the law for the program's own rows. -/
import Derived.Test.YtdoakaadpfheaaaDoorBytes
import Derived.Lib.AppendStr
namespace Go.Proofs.YtdoakaadpfheaaaDoor
open Go Go.RowKit

theorem strCells_bytesV (s : ByteArray) : Lib.strCells s = bytesV s.data.toList := rfl
theorem append_str {ops : Array Oper} {rest : List Oper} {a : Act} {w : World} {Q : Exit → Act → World → Prop} {tt : TypeId} {pos : String} {af : Array Edge} {sl x : Operand} {d : Tmp}
    {i : TypeInfo} (hE : Elem Tryd.prog 81 5 i (.int .u8 0) 1) (base g n cap : Nat) (l : List UInt8) (s : ByteArray)
    (hs : a.eval sl = .slice (some ⟨g, 0, none⟩) n cap) (hx : a.eval x = .string s) (hr : BR w base 5 g n cap (bytesV l))
    (hlen : n + s.size ≤ 1000000) (hbase : base ≤ w.heap.size)
    (h : ∀ g' cap' w', BR w' base 5 g' (n + s.size) cap' (bytesV (l ++ s.data.toList)) → Below base w w' → wpList Tryd.prog ops Q rest (a.put (some d) (.slice (some ⟨g', 0, none⟩) (n + s.size) cap')) w') :
    wpList Tryd.prog ops Q (⟨some d, .call { callee := .builtin .append, args := #[sl, x], argTypes := #[81, 9] }, tt, pos, af, none⟩ :: rest) a w := by
  refine wpList_plain rfl fun K hK => ?_
  obtain ⟨cur, fr, hgb, hsz, htk, hfr⟩ := hr.blk
  have hle := hr.le
  have hln := hr.len
  have hsl : (Lib.strCells s).length = s.size := Lib.strCells_length s
  unfold Oper.wp execOp
  by_cases hroom : n + s.size ≤ cap
  · have hrun : (Builtin.append_ #[81, 9] tt #[.slice (some ⟨g, 0, none⟩) n cap, .string s]).run Tryd.prog w = .ok (.slice (some ⟨g, 0, none⟩) (n + s.size) cap) (w.setCells g n (Lib.strCells s)) := by
      have hf := Lib.run_firstCells_string (P := Tryd.prog) w 1 s
      have hst := run_storeCells_cells (P := Tryd.prog) g n (Lib.strCells s) 0 w (fun j hj => by
          rw [Nat.add_zero, cell_of_row w g _ cur 5 fr hgb, Array.getElem?_eq_getElem (by omega)]; rfl) (fun j hj => by
          rw [hsl] at hj
          unfold World.frozen?
          simp only [hgb]
          rcases hfr with h5 | h5
          · simp; omega
          · simp; omega) (Lib.strCells_oneCell s)
      simp only [Nat.add_zero] at hst
      simp [Builtin.append_, run_underlying Tryd.underlying81, run_underlying Tryd.underlying9, sizeOf, typeInfo, hE.hi, hE.hs, Builtin.lenOf, hroom, hf, Addr.add_lit, hst]
    simp only [resolve, invoke, builtin, Sem.run_bind, Sem.run_pure, Result.andThen_ok, List.map_toArray, List.map_cons, List.map_nil, hs, hx, hrun]
    refine hK _ _ (h g cap _ ⟨by rw [bytesV_app, List.length_append, hln, ← strCells_bytesV, hsl], hr.base, hroom, ?_⟩ (below_setCells _ n w w g base (Below.refl _ _) hr.base))
    refine ⟨_, fr, heap_setCells_fr (Lib.strCells s) n w g 5 cur fr hgb (by omega), ?_, ?_, hfr⟩
    · simp; omega
    · have hl2 : (cur.toList.take n ++ Lib.strCells s).length = n + s.size := by simp; omega
      show (cur.toList.take n ++ Lib.strCells s ++ cur.toList.drop (n + (Lib.strCells s).length)).take (n + s.size) = _
      rw [List.take_append_of_le_length (by omega), List.take_of_length_le (by omega), htk, bytesV_app, strCells_bytesV]
  · have hrun := Lib.run_append_grow_string (P := Tryd.prog) w 81 9 tt 5 i (.int .u8 0) Tryd.underlying81 Tryd.underlying9 hE.hi hE.hz ⟨g, 0, none⟩ n cap (bytesV l) (by rw [hE.hs, hln]; omega) (fun j v hv => by
      have hjn : j < n := by rw [← hln]; exact (List.getElem?_eq_some_iff.1 hv).1
      rw [Addr.add_lit, Nat.zero_add, hr.cell j hjn]; exact hv) s (by omega) (by omega) (by rw [hE.hb]; exact growslice_fits (by omega) (by omega))
    simp only [resolve, invoke, builtin, Sem.run_bind, Sem.run_pure, Result.andThen_ok, List.map_toArray, List.map_cons, List.map_nil, hs, hx, hrun]
    have hge := grownCap_ge w (n + s.size) cap 5
    refine hK _ _ (h _ _ _ ⟨by rw [bytesV_app, List.length_append, hln, ← strCells_bytesV, hsl], hbase, hge, ?_⟩ ((Below.refl base w).drew.alloc hbase _))
    refine ⟨_, _, heap_alloc_new w.drew _, ?_, ?_, .inl (Nat.le_refl _)⟩
    · simp [size_zeroCells, Value.cells, hln]; omega
    · simp only [Array.toList_append]
      rw [List.take_append_of_le_length (by simp; omega), List.take_of_length_le (by simp; omega), bytesV_app, strCells_bytesV]
end Go.Proofs.YtdoakaadpfheaaaDoor
