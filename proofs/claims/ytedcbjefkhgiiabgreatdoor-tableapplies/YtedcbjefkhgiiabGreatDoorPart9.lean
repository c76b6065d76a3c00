/- Texts of this proof, one behind the other. -/
import Derived.Shelf.SlSortFuncK.WholeK
import Derived.Test.YtedcbjefkhgiiabGreatDoorRows
import Derived.Shelf.SlSortCmp.WholeK
import Derived.Shelf.SlSortCmp.NoneTotal
import Derived.Shelf.Small.Strs
import Derived.Test.YtedcbjefkhgiiabGreatDoorPart8
/- Cells in a row of memory: what the calls hand back. -/
namespace Go.Proofs.YtedcbjefkhgiiabGreatDoor
open Go.RowKit Go.Sort
set_option linter.unusedSectionVars false
variable [Inhabited Cl]
theorem cellsL_at : ∀ (cs : List Cl) (t : Nat), t < cs.length * 4 → (cellsL cs)[t]? = some ((cellL cs.toArray[t / 4]!)[t % 4]!)
  | [], t, h => by simp at h
  | c :: cs, t, h => by
    have e : cellsL (c :: cs) = cellL c ++ cellsL cs := rfl
    rw [e]
    by_cases h4 : t < 4
    · have e1 : t / 4 = 0 := by omega
      have e2 : t % 4 = t := by omega
      rw [e1, e2, List.getElem?_append_left (by exact h4)]
      match t, h4 with
      | 0, _ => rfl
      | 1, _ => rfl
      | 2, _ => rfl
      | 3, _ => rfl
    · have e1 : t / 4 = (t - 4) / 4 + 1 := by omega
      have e2 : t % 4 = (t - 4) % 4 := by omega
      rw [e1, e2, List.getElem?_append_right (by exact Nat.le_of_not_lt h4)]
      have ih := cellsL_at cs (t - 4) (by simp at h; omega)
      have e3 : (c :: cs).toArray[(t - 4) / 4 + 1]! = cs.toArray[(t - 4) / 4]! := by simp
      rw [e3, ← ih]
      rfl
theorem holds_of_block {w : World} {g : Nat} {cur : Array Value} {cs : List Cl} (hg : w.heap[g]? = some (.cells cur 44 (0, 0))) (hc : cur.toList.take (cs.length * 4) = cellsL cs) : HoldsK cellL 4 w g 0 cs.toArray := by
  intro j hj
  rw [size_flatK, List.size_toArray] at hj
  rw [get_flatK _ _ _ _ (by rw [List.size_toArray]; exact hj), Nat.zero_add]
  refine ⟨?_, frozen_of_row w g j cur 44 hg⟩
  rw [cell_of_row w g j cur 44 (0, 0) hg, ← Array.getElem?_toList, ← List.getElem?_take_of_lt hj, hc, cellsL_at cs j hj]
  rfl
/-- The cells lie in the row that a slice names. -/
def RowC (w : World) (base : Nat) (v : Value) (cs : List Cl) : Prop :=
  (v = .slice none 0 0 ∧ cs = []) ∨ ∃ g cap, v = .slice (some ⟨g, 0, none⟩) cs.length cap ∧ base ≤ g ∧ g < w.heap.size ∧ cs.length ≤ cap ∧ cap ≤ maxLen ∧ HoldsK cellL 4 w g 0 cs.toArray
theorem RowC.of_owns {w : World} {base : Nat} {v : Value} {cs : List Cl} (h : w.ownsRow base 44 4 v cs.length (cellsL cs)) : RowC w base v cs := by
  rcases h.2 with ⟨rfl, h0⟩ | ⟨g, cap, cur, rfl, hb, hg, h1, h2, h3, h4⟩
  · exact .inl ⟨rfl, List.length_eq_zero_iff.1 h0⟩
  · exact .inr ⟨g, cap, rfl, hb, lt_of_block hg, h1, h2, holds_of_block hg h4⟩
theorem holdsK_same {w w' : World} {g : Nat} {d : Array Cl} (h : HoldsK cellL 4 w g 0 d) (hb : w'.heap[g]? = w.heap[g]?) : HoldsK cellL 4 w' g 0 d := by
  intro j hj
  obtain ⟨h1, h2⟩ := h j hj
  exact ⟨(World.cell?_of_block (w := w) (a := ⟨g, 0 + j, none⟩) hb).trans h1, (World.frozen?_of_block (w := w) (a := ⟨g, 0 + j, none⟩) hb).trans h2⟩
theorem RowC.turned {w w' : World} {base : Nat} {v : Value} {cs : List Cl} {L : List Nat} (h : RowC w base v cs) (t : Stirred L w w') (hL : ∀ k ∈ L, k < base) : RowC w' base v cs := by
  rcases h with h | ⟨g, cap, rfl, hb, hg, h1, h2, h3⟩
  · exact .inl h
  · exact .inr ⟨g, cap, rfl, hb, Nat.lt_of_lt_of_le hg t.size, h1, h2, holdsK_same h3 (t.block g hg (fun hm => by have := hL g hm; omega))⟩
theorem RowC.below {w w' : World} {base B : Nat} {v : Value} {cs : List Cl} (h : RowC w base v cs) (k : Below B w w') (hB : w.heap.size ≤ B) : RowC w' base v cs := by
  rcases h with h | ⟨g, cap, rfl, hb, hg, h1, h2, h3⟩
  · exact .inl h
  · exact .inr ⟨g, cap, rfl, hb, Nat.lt_of_lt_of_le hg k.size, h1, h2, holdsK_same h3 (k.block g (by omega))⟩
theorem RowC.mono {w : World} {base base' : Nat} {v : Value} {cs : List Cl} (h : RowC w base v cs) (hb : base' ≤ base) : RowC w base' v cs := by
  rcases h with h | ⟨g, cap, rfl, hb', r⟩
  · exact .inl h
  · exact .inr ⟨g, cap, rfl, Nat.le_trans hb hb', r⟩
theorem isAgg42 (w : World) : (isAgg 44).run Tryz.prog w = .ok true w := by kernel_rfl
theorem sizeOf42 (w : World) : (Go.sizeOf 44).run Tryz.prog w = .ok 4 w := by kernel_rfl
theorem cellL_one (x : Cl) : ∀ v ∈ cellL x, v.oneCell' = true := by
  intro v hv
  simp [cellL] at hv
  rcases hv with rfl | rfl | rfl | rfl <;> rfl
theorem below_sortWorld {w : World} {blk n B : Nat} {d : Array Cl} {os : Array Obj} (hB : B ≤ blk) (hb : blk < w.heap.size) : Below B w (sortWorldK cellL 4 w blk 0 n d os) := by
  have hs : (putRowK cellL 4 (Sort.ahead w n) blk 0 d).heap.size = w.heap.size := by simp [putRowK, putRow, mapBlock, Sort.ahead]
  refine ⟨rfl, rfl, rfl, by unfold sortWorldK; rw [size_grow, hs]; omega, fun k hk => ?_⟩
  unfold sortWorldK
  rw [heap_grow_old _ _ (by rw [hs]; omega)]
  show ((Sort.ahead w n).heap.modify blk _)[k]? = w.heap[k]?
  rw [Array.getElem?_modify]
  rw [if_neg (by omega)]
  rfl
end Go.Proofs.YtedcbjefkhgiiabGreatDoor

/- The library's own functions at this program: strings.Compare, slices.SortFunc, ContainsFunc, Contains, Equal, Clone: the tables of numbers. -/
namespace Go.Proofs.YtedcbjefkhgiiabGreatDoor
open Go.Shelf
def laysCompare_ren : Go.Shelf.Ren := ⟨fun | 106 => 92 | 213 => 136 | 265 => 175 | n => n, fun | 9 => 9 | 3 => 3 | n => n, fun | n => n⟩
theorem laysCompare : Go.Proofs.Lays.n106 Tryz.prog laysCompare_ren := {
  mixed := by kernel_rfl
  f106 := Tryz.func92.trans (congrArg some (by kernel_rfl))
  f213 := Tryz.func136.trans (congrArg some (by kernel_rfl))
  f265 := Tryz.func175.trans (congrArg some (by kernel_rfl))
  t3 := Tryz.underlying3
  a3 := Tryz.isAgg3
  z3 := Tryz.sizeOf3
  v3 := Tryz.zeroValue3
  t9 := Tryz.underlying9
  a9 := Tryz.isAgg9
  z9 := Tryz.sizeOf9
  v9 := Tryz.zeroValue9 }
def laysSort_ren : Go.Shelf.Ren := ⟨fun | 6 => 89 | 15 => 86 | 14 => 135 | 28 => 124 | 29 => 125 | 20 => 167 | 21 => 168 | 22 => 169 | 23 => 170 | 24 => 171 | 25 => 172 | 26 => 173 | 27 => 174 | 46 => 194 | 47 => 187 | 48 => 188 | 49 => 195 | 50 => 196 | 57 => 204 | n => n, fun | 22 => 25 | 24 => 44 | 25 => 102 | 3 => 3 | 39 => 149 | 0 => 0 | 53 => 189 | 55 => 191 | 4 => 4 | 46 => 224 | 45 => 223 | 50 => 58 | 5 => 5 | 9 => 9 | 66 => 254 | 70 => 235 | 76 => 268 | 77 => 259 | n => n, fun | n => n⟩
theorem laysSort : Go.Proofs.SlLaysF0.n6 Tryz.prog laysSort_ren := {
  mixed := by kernel_rfl
  f6 := ⟨Tryz.f89.name, by decide, Tryz.func89.trans (congrArg some (by kernel_rfl))⟩
  f14 := ⟨Tryz.f135.name, by decide, Tryz.func135.trans (congrArg some (by kernel_rfl))⟩
  f15 := Tryz.func86.trans (congrArg some (by kernel_rfl))
  f20 := ⟨Tryz.f167.name, by decide, Tryz.func167.trans (congrArg some (by kernel_rfl))⟩
  f21 := ⟨Tryz.f168.name, by decide, Tryz.func168.trans (congrArg some (by kernel_rfl))⟩
  f22 := ⟨Tryz.f169.name, by decide, Tryz.func169.trans (congrArg some (by kernel_rfl))⟩
  f23 := ⟨Tryz.f170.name, by decide, Tryz.func170.trans (congrArg some (by kernel_rfl))⟩
  f24 := ⟨Tryz.f171.name, by decide, Tryz.func171.trans (congrArg some (by kernel_rfl))⟩
  f25 := ⟨Tryz.f172.name, by decide, Tryz.func172.trans (congrArg some (by kernel_rfl))⟩
  f26 := ⟨Tryz.f173.name, by decide, Tryz.func173.trans (congrArg some (by kernel_rfl))⟩
  f27 := ⟨Tryz.f174.name, by decide, Tryz.func174.trans (congrArg some (by kernel_rfl))⟩
  f28 := Tryz.func124.trans (congrArg some (by kernel_rfl))
  f29 := Tryz.func125.trans (congrArg some (by kernel_rfl))
  f46 := ⟨Tryz.f194.name, by decide, Tryz.func194.trans (congrArg some (by kernel_rfl))⟩
  f47 := Tryz.func187.trans (congrArg some (by kernel_rfl))
  f48 := Tryz.func188.trans (congrArg some (by kernel_rfl))
  f49 := ⟨Tryz.f195.name, by decide, Tryz.func195.trans (congrArg some (by kernel_rfl))⟩
  f50 := ⟨Tryz.f196.name, by decide, Tryz.func196.trans (congrArg some (by kernel_rfl))⟩
  f57 := ⟨Tryz.f204.name, by decide, Tryz.func204.trans (congrArg some (by kernel_rfl))⟩
  t0 := Tryz.underlying0
  a0 := Tryz.isAgg0
  z0 := Tryz.sizeOf0
  v0 := Tryz.zeroValue0
  t3 := Tryz.underlying3
  a3 := Tryz.isAgg3
  z3 := Tryz.sizeOf3
  v3 := Tryz.zeroValue3
  t4 := Tryz.underlying4
  a4 := Tryz.isAgg4
  z4 := Tryz.sizeOf4
  v4 := Tryz.zeroValue4
  t5 := Tryz.underlying5
  a5 := Tryz.isAgg5
  z5 := Tryz.sizeOf5
  v5 := Tryz.zeroValue5
  t9 := Tryz.underlying9
  a9 := Tryz.isAgg9
  z9 := Tryz.sizeOf9
  v9 := Tryz.zeroValue9
  t22 := Tryz.underlying25
  a22 := Tryz.isAgg25
  z22 := Tryz.sizeOf25
  v22 := Tryz.zeroValue25
  t25 := Tryz.underlying102
  a25 := Tryz.isAgg102
  z25 := Tryz.sizeOf102
  v25 := Tryz.zeroValue102
  t39 := Tryz.underlying149
  a39 := Tryz.isAgg149
  z39 := Tryz.sizeOf149
  v39 := Tryz.zeroValue149
  t45 := Tryz.underlying223
  a45 := Tryz.isAgg223
  z45 := Tryz.sizeOf223
  v45 := Tryz.zeroValue223
  t46 := Tryz.underlying224
  a46 := Tryz.isAgg224
  z46 := Tryz.sizeOf224
  v46 := Tryz.zeroValue224
  t50 := Tryz.underlying58
  a50 := Tryz.isAgg58
  z50 := Tryz.sizeOf58
  v50 := Tryz.zeroValue58
  t53 := Tryz.underlying189
  a53 := Tryz.isAgg189
  z53 := Tryz.sizeOf189
  v53 := Tryz.zeroValue189
  t55 := Tryz.underlying191
  a55 := Tryz.isAgg191
  z55 := Tryz.sizeOf191
  v55 := Tryz.zeroValue191
  t66 := Tryz.underlying254
  a66 := Tryz.isAgg254
  z66 := Tryz.sizeOf254
  v66 := Tryz.zeroValue254
  t70 := Tryz.underlying235
  a70 := Tryz.isAgg235
  z70 := Tryz.sizeOf235
  v70 := Tryz.zeroValue235
  t76 := Tryz.underlying268
  a76 := Tryz.isAgg268
  z76 := Tryz.sizeOf268
  v76 := Tryz.zeroValue268
  t77 := Tryz.underlying259
  a77 := Tryz.isAgg259
  z77 := Tryz.sizeOf259
  v77 := Tryz.zeroValue259 }
end Go.Proofs.YtedcbjefkhgiiabGreatDoor
