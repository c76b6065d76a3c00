/- Texts of this proof, one behind the other. -/
import Derived.Test.YtedcbjefkhgiiabGreatDoorProg
import Derived.Shelf.GgSortFunc.Lays
import Derived.Shelf.SlSortFuncK.BreakPatternsK
import Derived.Test.YtedcbjefkhgiiabGreatDoorPart21
/- sort.Slice and what it calls, at this program: the table of numbers. -/
namespace Go.Proofs.YtedcbjefkhgiiabGreatDoor
open Go.Shelf
def laysSlice_ren : Go.Shelf.Ren := ⟨fun | 6 => 54 | 10 => 83 | 11 => 84 | 12 => 85 | 13 => 86 | 14 => 87 | 24 => 124 | 25 => 125 | 26 => 126 | 27 => 127 | 28 => 128 | 29 => 129 | 30 => 130 | 31 => 131 | 32 => 132 | 33 => 133 | 34 => 162 | 35 => 163 | 36 => 164 | 37 => 165 | 38 => 166 | 39 => 193 | n => n, fun | 20 => 20 | 26 => 97 | 35 => 143 | 0 => 0 | 37 => 145 | 3 => 3 | 41 => 149 | 44 => 152 | 49 => 189 | 51 => 191 | 4 => 4 | 54 => 194 | 53 => 193 | 58 => 58 | 5 => 5 | 9 => 9 | 60 => 231 | 64 => 235 | 66 => 258 | 67 => 259 | 17 => 17 | 32 => 140 | 33 => 141 | 82 => 298 | 12 => 12 | 75 => 293 | 76 => 169 | 77 => 294 | 78 => 221 | 79 => 295 | 80 => 296 | n => n, fun | n => n⟩
theorem laysSlice : Go.Proofs.LaysGg.n6 Tryz.prog laysSlice_ren := {
  mixed := by kernel_rfl
  f6 := Tryz.func54.trans (congrArg some (by kernel_rfl))
  f10 := Tryz.func83.trans (congrArg some (by kernel_rfl))
  f11 := Tryz.func84.trans (congrArg some (by kernel_rfl))
  f12 := Tryz.func85.trans (congrArg some (by kernel_rfl))
  f13 := Tryz.func86.trans (congrArg some (by kernel_rfl))
  f14 := Tryz.func87.trans (congrArg some (by kernel_rfl))
  f24 := Tryz.func124.trans (congrArg some (by kernel_rfl))
  f25 := Tryz.func125.trans (congrArg some (by kernel_rfl))
  f26 := Tryz.func126.trans (congrArg some (by kernel_rfl))
  f27 := Tryz.func127.trans (congrArg some (by kernel_rfl))
  f28 := Tryz.func128.trans (congrArg some (by kernel_rfl))
  f29 := Tryz.func129.trans (congrArg some (by kernel_rfl))
  f30 := Tryz.func130.trans (congrArg some (by kernel_rfl))
  f31 := Tryz.func131.trans (congrArg some (by kernel_rfl))
  f32 := Tryz.func132.trans (congrArg some (by kernel_rfl))
  f33 := Tryz.func133.trans (congrArg some (by kernel_rfl))
  f34 := Tryz.func162.trans (congrArg some (by kernel_rfl))
  f35 := Tryz.func163.trans (congrArg some (by kernel_rfl))
  f36 := Tryz.func164.trans (congrArg some (by kernel_rfl))
  f37 := Tryz.func165.trans (congrArg some (by kernel_rfl))
  f38 := Tryz.func166.trans (congrArg some (by kernel_rfl))
  f39 := Tryz.func193.trans (congrArg some (by kernel_rfl))
  t0 := Tryz.underlying0
  a0 := Tryz.isAgg0
  z0 := Tryz.sizeOf0
  v0 := Tryz.zeroValue0
  i0 := by kernel_rfl
  t3 := Tryz.underlying3
  a3 := Tryz.isAgg3
  z3 := Tryz.sizeOf3
  v3 := Tryz.zeroValue3
  i3 := by kernel_rfl
  t4 := Tryz.underlying4
  a4 := Tryz.isAgg4
  z4 := Tryz.sizeOf4
  v4 := Tryz.zeroValue4
  i4 := by kernel_rfl
  t5 := Tryz.underlying5
  a5 := Tryz.isAgg5
  z5 := Tryz.sizeOf5
  v5 := Tryz.zeroValue5
  i5 := by kernel_rfl
  t9 := Tryz.underlying9
  a9 := Tryz.isAgg9
  z9 := Tryz.sizeOf9
  v9 := Tryz.zeroValue9
  i9 := by kernel_rfl
  t12 := Tryz.underlying12
  a12 := Tryz.isAgg12
  z12 := Tryz.sizeOf12
  v12 := Tryz.zeroValue12
  i12 := by kernel_rfl
  t17 := Tryz.underlying17
  a17 := Tryz.isAgg17
  z17 := Tryz.sizeOf17
  v17 := Tryz.zeroValue17
  i17 := by kernel_rfl
  t20 := Tryz.underlying20
  a20 := Tryz.isAgg20
  z20 := Tryz.sizeOf20
  v20 := Tryz.zeroValue20
  i20 := by kernel_rfl
  t26 := Tryz.underlying97
  a26 := Tryz.isAgg97
  z26 := Tryz.sizeOf97
  v26 := Tryz.zeroValue97
  i26 := by kernel_rfl
  t32 := Tryz.underlying140
  a32 := Tryz.isAgg140
  z32 := Tryz.sizeOf140
  v32 := Tryz.zeroValue140
  i32 := by kernel_rfl
  t33 := Tryz.underlying141
  a33 := Tryz.isAgg141
  z33 := Tryz.sizeOf141
  v33 := Tryz.zeroValue141
  i33 := by kernel_rfl
  t35 := Tryz.underlying143
  a35 := Tryz.isAgg143
  z35 := Tryz.sizeOf143
  v35 := Tryz.zeroValue143
  i35 := by kernel_rfl
  t37 := Tryz.underlying145
  a37 := Tryz.isAgg145
  z37 := Tryz.sizeOf145
  v37 := Tryz.zeroValue145
  i37 := by kernel_rfl
  t41 := Tryz.underlying149
  a41 := Tryz.isAgg149
  z41 := Tryz.sizeOf149
  v41 := Tryz.zeroValue149
  i41 := by kernel_rfl
  t44 := Tryz.underlying152
  a44 := Tryz.isAgg152
  z44 := Tryz.sizeOf152
  v44 := Tryz.zeroValue152
  i44 := by kernel_rfl
  t49 := Tryz.underlying189
  a49 := Tryz.isAgg189
  z49 := Tryz.sizeOf189
  v49 := Tryz.zeroValue189
  i49 := by kernel_rfl
  t51 := Tryz.underlying191
  a51 := Tryz.isAgg191
  z51 := Tryz.sizeOf191
  v51 := Tryz.zeroValue191
  i51 := by kernel_rfl
  t53 := Tryz.underlying193
  a53 := Tryz.isAgg193
  z53 := Tryz.sizeOf193
  v53 := Tryz.zeroValue193
  i53 := by kernel_rfl
  t54 := Tryz.underlying194
  a54 := Tryz.isAgg194
  z54 := Tryz.sizeOf194
  v54 := Tryz.zeroValue194
  i54 := by kernel_rfl
  t58 := Tryz.underlying58
  a58 := Tryz.isAgg58
  z58 := Tryz.sizeOf58
  v58 := Tryz.zeroValue58
  i58 := by kernel_rfl
  t60 := Tryz.underlying231
  a60 := Tryz.isAgg231
  z60 := Tryz.sizeOf231
  v60 := Tryz.zeroValue231
  i60 := by kernel_rfl
  t64 := Tryz.underlying235
  a64 := Tryz.isAgg235
  z64 := Tryz.sizeOf235
  v64 := Tryz.zeroValue235
  i64 := by kernel_rfl
  t66 := Tryz.underlying258
  a66 := Tryz.isAgg258
  z66 := Tryz.sizeOf258
  v66 := Tryz.zeroValue258
  i66 := by kernel_rfl
  t67 := Tryz.underlying259
  a67 := Tryz.isAgg259
  z67 := Tryz.sizeOf259
  v67 := Tryz.zeroValue259
  i67 := by kernel_rfl
  t75 := Tryz.underlying293
  a75 := Tryz.isAgg293
  z75 := Tryz.sizeOf293
  v75 := Tryz.zeroValue293
  i75 := by kernel_rfl
  t76 := Tryz.underlying169
  a76 := Tryz.isAgg169
  z76 := Tryz.sizeOf169
  v76 := Tryz.zeroValue169
  i76 := by kernel_rfl
  t77 := Tryz.underlying294
  a77 := Tryz.isAgg294
  z77 := Tryz.sizeOf294
  v77 := Tryz.zeroValue294
  i77 := by kernel_rfl
  t78 := Tryz.underlying221
  a78 := Tryz.isAgg221
  z78 := Tryz.sizeOf221
  v78 := Tryz.zeroValue221
  i78 := by kernel_rfl
  t79 := Tryz.underlying295
  a79 := Tryz.isAgg295
  z79 := Tryz.sizeOf295
  v79 := Tryz.zeroValue295
  i79 := by kernel_rfl
  t80 := Tryz.underlying296
  a80 := Tryz.isAgg296
  z80 := Tryz.sizeOf296
  v80 := Tryz.zeroValue296
  i80 := by kernel_rfl
  t82 := Tryz.underlying298
  a82 := Tryz.isAgg298
  z82 := Tryz.sizeOf298
  v82 := Tryz.zeroValue298
  i82 := by kernel_rfl }
end Go.Proofs.YtedcbjefkhgiiabGreatDoor

/- sort.breakPatterns_func: it asks no 'less'; the library's own contract, in the sort's words. -/
namespace Go.Proofs.YtedcbjefkhgiiabGreatDoor
open Go.RowKit Go.Sort
set_option linter.unusedSectionVars false
variable [Inhabited Cl]
theorem stirred_sorted (W : World) (blk m : Nat) (d' : Array Cl) (os : Array Obj) : Stirred [blk] W (sortWorldK cellL 4 W blk 0 m d' os) := by
  refine ⟨rfl, rfl, rfl, ?_, ?_⟩
  · unfold sortWorldK
    rw [size_grow, size_putRowK]
    show W.heap.size ≤ W.heap.size + _
    omega
  · intro k hk hn
    have hne : blk ≠ k := fun e => hn (by simp [e])
    unfold sortWorldK grow putRowK putRow mapBlock
    show (W.heap.modify blk _ ++ os)[k]? = W.heap[k]?
    rw [Array.getElem?_append_left (by simpa using hk), Array.getElem?_modify]
    simp [hne]
theorem breaks_any (w0 : World) (blk n g : Nat) (lb : Array Value) (sf : Nat) (sb : Array Value) (a b : Nat) (d : Array Cl) (W : World)
    (hswap : SwapSwapsK Tryz.prog sf sb cellL 4 blk 0 n) (hS : Srt w0 blk W d) (hd : d.size = n) (hab : a ≤ b) (hb : b ≤ n) (hn : n ≤ 1000000) :
    Calls Tryz.prog 128 #[.agg #[.func (.func g) #[] lb, .func (.func sf) #[] sb], .int .i64 a, .int .i64 b] W fun e w' => e = .returned (.tuple #[]) ∧ Srt w0 blk w' (breakPatterns d a b) ∧ Stirred [blk] W w' := by
  have hlt : blk < W.heap.size := Nat.lt_of_lt_of_le hS.lt hS.but.size
  have h := Any.breakPatterns_func_cells_w (P := Tryz.prog) (ρ := laysSlice_ren) { laysSlice with } cellL 4 (fun _ => rfl) (.func g) #[] lb sf sb blk 0 a b d W (by rw [hd]; exact hswap) hS.row hlt hab (by omega) (by omega)
  have hz : (breakPatterns d a b).size = d.size := by
    have p := step_break d hab (by omega) True
    simpa using p.1
  refine h.mono ?_
  rintro e w' ⟨rfl, m, os, rfl⟩
  have st := stirred_sorted W blk m (breakPatterns d a b) os
  exact ⟨rfl, ⟨holdsK_sortWorldK cellL 4 W blk 0 m d _ os hlt hS.row hz, hS.but.andThen st (fun j hj => .inl hj), hS.lt⟩, st⟩
end Go.Proofs.YtedcbjefkhgiiabGreatDoor
