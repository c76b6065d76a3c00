/- Texts of this proof, one behind the other. -/
import Derived.Shelf.SlSortFuncK.WholeK
import Derived.Test.YtkbaalenbpgheaaGreatDoorProg
import Derived.Shelf.SlSortCmp.WholeK
import Derived.Shelf.SlSortCmp.NoneTotal
import Derived.Shelf.Small.Strs
import Derived.Deep.RegionHeld3
import Derived.Deep.DrawnRows
import Derived.Deep.QuietTactic
import Derived.BigQuiet
import Derived.Test.YtkbaalenbpgheaaGreatDoorPart21
/- Cells in a row of memory: what the calls hand back. -/
namespace Go.Proofs.YtkbaalenbpgheaaGreatDoor
open Go.RowKit Go.Sort
set_option linter.unusedSectionVars false
variable [Inhabited Cl]
theorem cellsL_at : ∀ (cs : List Cl) (t : Nat), t < cs.length * 4 → (cellsL cs)[t]? = some ((cellL cs.toArray[t / 4]!)[t % 4]!)
  | [], t, h => by simp at h
  | c :: cs, t, h => by
    have e : cellsL (c :: cs) = cellL c ++ cellsL cs := rfl
    rw [e]
    by_cases h4 : t < 4
    · have e1 : t / 4 = 0 := by omega
      have e2 : t % 4 = t := by omega
      rw [e1, e2, List.getElem?_append_left (by exact h4)]
      match t, h4 with
      | 0, _ => rfl
      | 1, _ => rfl
      | 2, _ => rfl
      | 3, _ => rfl
    · have e1 : t / 4 = (t - 4) / 4 + 1 := by omega
      have e2 : t % 4 = (t - 4) % 4 := by omega
      rw [e1, e2, List.getElem?_append_right (by exact Nat.le_of_not_lt h4)]
      have ih := cellsL_at cs (t - 4) (by simp at h; omega)
      have e3 : (c :: cs).toArray[(t - 4) / 4 + 1]! = cs.toArray[(t - 4) / 4]! := by simp
      rw [e3, ← ih]
      rfl
theorem holds_of_block {w : World} {g : Nat} {cur : Array Value} {cs : List Cl} (hg : w.heap[g]? = some (.cells cur 42 (0, 0))) (hc : cur.toList.take (cs.length * 4) = cellsL cs) : HoldsK cellL 4 w g 0 cs.toArray := by
  intro j hj
  rw [size_flatK, List.size_toArray] at hj
  rw [get_flatK _ _ _ _ (by rw [List.size_toArray]; exact hj), Nat.zero_add]
  refine ⟨?_, frozen_of_row w g j cur 42 hg⟩
  rw [cell_of_row w g j cur 42 (0, 0) hg, ← Array.getElem?_toList, ← List.getElem?_take_of_lt hj, hc, cellsL_at cs j hj]
  rfl
/-- The cells lie in the row that a slice names. -/
def RowC (w : World) (base : Nat) (v : Value) (cs : List Cl) : Prop :=
  (v = .slice none 0 0 ∧ cs = []) ∨ ∃ g cap, v = .slice (some ⟨g, 0, none⟩) cs.length cap ∧ base ≤ g ∧ g < w.heap.size ∧ cs.length ≤ cap ∧ cap ≤ maxLen ∧ HoldsK cellL 4 w g 0 cs.toArray
theorem RowC.of_owns {w : World} {base : Nat} {v : Value} {cs : List Cl} (h : w.ownsRow base 42 4 v cs.length (cellsL cs)) : RowC w base v cs := by
  rcases h.2 with ⟨rfl, h0⟩ | ⟨g, cap, cur, rfl, hb, hg, h1, h2, h3, h4⟩
  · exact .inl ⟨rfl, List.length_eq_zero_iff.1 h0⟩
  · exact .inr ⟨g, cap, rfl, hb, lt_of_block hg, h1, h2, holds_of_block hg h4⟩
theorem holdsK_same {w w' : World} {g : Nat} {d : Array Cl} (h : HoldsK cellL 4 w g 0 d) (hb : w'.heap[g]? = w.heap[g]?) : HoldsK cellL 4 w' g 0 d := by
  intro j hj
  obtain ⟨h1, h2⟩ := h j hj
  exact ⟨(World.cell?_of_block (w := w) (a := ⟨g, 0 + j, none⟩) hb).trans h1, (World.frozen?_of_block (w := w) (a := ⟨g, 0 + j, none⟩) hb).trans h2⟩
theorem RowC.turned {w w' : World} {base : Nat} {v : Value} {cs : List Cl} {L : List Nat} (h : RowC w base v cs) (t : Stirred L w w') (hL : ∀ k ∈ L, k < base) : RowC w' base v cs := by
  rcases h with h | ⟨g, cap, rfl, hb, hg, h1, h2, h3⟩
  · exact .inl h
  · exact .inr ⟨g, cap, rfl, hb, Nat.lt_of_lt_of_le hg t.size, h1, h2, holdsK_same h3 (t.block g hg (fun hm => by have := hL g hm; omega))⟩
theorem RowC.below {w w' : World} {base B : Nat} {v : Value} {cs : List Cl} (h : RowC w base v cs) (k : Below B w w') (hB : w.heap.size ≤ B) : RowC w' base v cs := by
  rcases h with h | ⟨g, cap, rfl, hb, hg, h1, h2, h3⟩
  · exact .inl h
  · exact .inr ⟨g, cap, rfl, hb, Nat.lt_of_lt_of_le hg k.size, h1, h2, holdsK_same h3 (k.block g (by omega))⟩
theorem RowC.mono {w : World} {base base' : Nat} {v : Value} {cs : List Cl} (h : RowC w base v cs) (hb : base' ≤ base) : RowC w base' v cs := by
  rcases h with h | ⟨g, cap, rfl, hb', r⟩
  · exact .inl h
  · exact .inr ⟨g, cap, rfl, Nat.le_trans hb hb', r⟩
theorem isAgg42 (w : World) : (isAgg 42).run Tryz.prog w = .ok true w := by kernel_rfl
theorem sizeOf42 (w : World) : (Go.sizeOf 42).run Tryz.prog w = .ok 4 w := by kernel_rfl
theorem cellL_one (x : Cl) : ∀ v ∈ cellL x, v.oneCell' = true := by
  intro v hv
  simp [cellL] at hv
  rcases hv with rfl | rfl | rfl | rfl <;> rfl
theorem below_sortWorld {w : World} {blk n B : Nat} {d : Array Cl} {os : Array Obj} (hB : B ≤ blk) (hb : blk < w.heap.size) : Below B w (sortWorldK cellL 4 w blk 0 n d os) := by
  have hs : (putRowK cellL 4 (Sort.ahead w n) blk 0 d).heap.size = w.heap.size := by simp [putRowK, putRow, mapBlock, Sort.ahead]
  refine ⟨rfl, rfl, rfl, by unfold sortWorldK; rw [size_grow, hs]; omega, fun k hk => ?_⟩
  unfold sortWorldK
  rw [heap_grow_old _ _ (by rw [hs]; omega)]
  show ((Sort.ahead w n).heap.modify blk _)[k]? = w.heap[k]?
  rw [Array.getElem?_modify]
  rw [if_neg (by omega)]
  rfl
end Go.Proofs.YtkbaalenbpgheaaGreatDoor

/- The library's own functions at this program: strings.Compare, slices.SortFunc, ContainsFunc, Contains, Equal, Clone: the tables of numbers. -/
namespace Go.Proofs.YtkbaalenbpgheaaGreatDoor
open Go.Shelf
def laysCompare_ren : Go.Shelf.Ren := ⟨fun | 106 => 91 | 213 => 129 | 265 => 155 | n => n, fun | 9 => 9 | 3 => 3 | n => n, fun | n => n⟩
theorem laysCompare : Go.Proofs.Lays.n106 Tryz.prog laysCompare_ren := {
  mixed := by kernel_rfl
  f106 := Tryz.func91.trans (congrArg some (by kernel_rfl))
  f213 := Tryz.func129.trans (congrArg some (by kernel_rfl))
  f265 := Tryz.func155.trans (congrArg some (by kernel_rfl))
  t3 := Tryz.underlying3
  a3 := Tryz.isAgg3
  z3 := Tryz.sizeOf3
  v3 := Tryz.zeroValue3
  t9 := Tryz.underlying9
  a9 := Tryz.isAgg9
  z9 := Tryz.sizeOf9
  v9 := Tryz.zeroValue9 }
def laysSort_ren : Go.Shelf.Ren := ⟨fun | 6 => 108 | 15 => 80 | 14 => 145 | 28 => 119 | 29 => 120 | 20 => 165 | 21 => 166 | 22 => 167 | 23 => 168 | 24 => 169 | 25 => 170 | 26 => 171 | 27 => 172 | 46 => 183 | 47 => 147 | 48 => 148 | 49 => 184 | 50 => 185 | 57 => 194 | n => n, fun | 22 => 45 | 24 => 42 | 25 => 116 | 3 => 3 | 39 => 111 | 0 => 0 | 53 => 190 | 55 => 192 | 4 => 4 | 46 => 182 | 45 => 181 | 50 => 187 | 5 => 5 | 9 => 9 | 66 => 230 | 70 => 234 | 76 => 254 | 77 => 255 | n => n, fun | n => n⟩
theorem laysSort : Go.Proofs.SlLaysF0.n6 Tryz.prog laysSort_ren := {
  mixed := by kernel_rfl
  f6 := ⟨Tryz.f108.name, by decide, Tryz.func108.trans (congrArg some (by kernel_rfl))⟩
  f14 := ⟨Tryz.f145.name, by decide, Tryz.func145.trans (congrArg some (by kernel_rfl))⟩
  f15 := Tryz.func80.trans (congrArg some (by kernel_rfl))
  f20 := ⟨Tryz.f165.name, by decide, Tryz.func165.trans (congrArg some (by kernel_rfl))⟩
  f21 := ⟨Tryz.f166.name, by decide, Tryz.func166.trans (congrArg some (by kernel_rfl))⟩
  f22 := ⟨Tryz.f167.name, by decide, Tryz.func167.trans (congrArg some (by kernel_rfl))⟩
  f23 := ⟨Tryz.f168.name, by decide, Tryz.func168.trans (congrArg some (by kernel_rfl))⟩
  f24 := ⟨Tryz.f169.name, by decide, Tryz.func169.trans (congrArg some (by kernel_rfl))⟩
  f25 := ⟨Tryz.f170.name, by decide, Tryz.func170.trans (congrArg some (by kernel_rfl))⟩
  f26 := ⟨Tryz.f171.name, by decide, Tryz.func171.trans (congrArg some (by kernel_rfl))⟩
  f27 := ⟨Tryz.f172.name, by decide, Tryz.func172.trans (congrArg some (by kernel_rfl))⟩
  f28 := Tryz.func119.trans (congrArg some (by kernel_rfl))
  f29 := Tryz.func120.trans (congrArg some (by kernel_rfl))
  f46 := ⟨Tryz.f183.name, by decide, Tryz.func183.trans (congrArg some (by kernel_rfl))⟩
  f47 := Tryz.func147.trans (congrArg some (by kernel_rfl))
  f48 := Tryz.func148.trans (congrArg some (by kernel_rfl))
  f49 := ⟨Tryz.f184.name, by decide, Tryz.func184.trans (congrArg some (by kernel_rfl))⟩
  f50 := ⟨Tryz.f185.name, by decide, Tryz.func185.trans (congrArg some (by kernel_rfl))⟩
  f57 := ⟨Tryz.f194.name, by decide, Tryz.func194.trans (congrArg some (by kernel_rfl))⟩
  t0 := Tryz.underlying0
  a0 := Tryz.isAgg0
  z0 := Tryz.sizeOf0
  v0 := Tryz.zeroValue0
  t3 := Tryz.underlying3
  a3 := Tryz.isAgg3
  z3 := Tryz.sizeOf3
  v3 := Tryz.zeroValue3
  t4 := Tryz.underlying4
  a4 := Tryz.isAgg4
  z4 := Tryz.sizeOf4
  v4 := Tryz.zeroValue4
  t5 := Tryz.underlying5
  a5 := Tryz.isAgg5
  z5 := Tryz.sizeOf5
  v5 := Tryz.zeroValue5
  t9 := Tryz.underlying9
  a9 := Tryz.isAgg9
  z9 := Tryz.sizeOf9
  v9 := Tryz.zeroValue9
  t22 := Tryz.underlying45
  a22 := Tryz.isAgg45
  z22 := Tryz.sizeOf45
  v22 := Tryz.zeroValue45
  t25 := Tryz.underlying116
  a25 := Tryz.isAgg116
  z25 := Tryz.sizeOf116
  v25 := Tryz.zeroValue116
  t39 := Tryz.underlying111
  a39 := Tryz.isAgg111
  z39 := Tryz.sizeOf111
  v39 := Tryz.zeroValue111
  t45 := Tryz.underlying181
  a45 := Tryz.isAgg181
  z45 := Tryz.sizeOf181
  v45 := Tryz.zeroValue181
  t46 := Tryz.underlying182
  a46 := Tryz.isAgg182
  z46 := Tryz.sizeOf182
  v46 := Tryz.zeroValue182
  t50 := Tryz.underlying187
  a50 := Tryz.isAgg187
  z50 := Tryz.sizeOf187
  v50 := Tryz.zeroValue187
  t53 := Tryz.underlying190
  a53 := Tryz.isAgg190
  z53 := Tryz.sizeOf190
  v53 := Tryz.zeroValue190
  t55 := Tryz.underlying192
  a55 := Tryz.isAgg192
  z55 := Tryz.sizeOf192
  v55 := Tryz.zeroValue192
  t66 := Tryz.underlying230
  a66 := Tryz.isAgg230
  z66 := Tryz.sizeOf230
  v66 := Tryz.zeroValue230
  t70 := Tryz.underlying234
  a70 := Tryz.isAgg234
  z70 := Tryz.sizeOf234
  v70 := Tryz.zeroValue234
  t76 := Tryz.underlying254
  a76 := Tryz.isAgg254
  z76 := Tryz.sizeOf254
  v76 := Tryz.zeroValue254
  t77 := Tryz.underlying255
  a77 := Tryz.isAgg255
  z77 := Tryz.sizeOf255
  v77 := Tryz.zeroValue255 }
end Go.Proofs.YtkbaalenbpgheaaGreatDoor

/- The order of cells: cmp.Or, and the program's own Compare. -/
namespace Go.Proofs.YtkbaalenbpgheaaGreatDoor
open Go.RowKit Go.Sort
attribute [local go_sem ↓] Go.wp_at_zero Go.wp_at_succ
set_option linter.unusedSectionVars false
variable [Inhabited Cl]
def orI (x y : Int) : Int := if x ≠ 0 then x else y
set_option maxRecDepth 100000 in
set_option maxHeartbeats 1000000 in
theorem or_any (b : Nat) (x y : Int) (w : World) (h0 : w.cell? ⟨b, 0, none⟩ = some (.int .i64 x)) (h1 : w.cell? ⟨b, 1, none⟩ = some (.int .i64 y)) :
    Calls Tryz.prog 90 #[.slice (some ⟨b, 0, none⟩) 2 2] w fun e w' => e = .returned (.int .i64 (orI x y)) ∧ w' = w := by
  unfold orI
  by_cases hx : x = 0
  · rw [if_neg (by simpa using hx)]
    subst hx
    by_cases hy : y = 0
    · subst hy
      go_enter Tryz.func90, Tryz.ntmps90
      go_wp2
      refine wp_loop_rounds 3 ?_
      rw [rounds_succ]
      go_wp2
      rw [rounds_succ]
      go_wp2
      rw [rounds_succ]
      go_wp2
      go_ret
      exact ⟨rfl, rfl⟩
    · go_enter Tryz.func90, Tryz.ntmps90
      go_wp2
      refine wp_loop_rounds 2 ?_
      rw [rounds_succ]
      go_wp2
      rw [rounds_succ]
      go_wp2
      go_ret
      exact ⟨rfl, rfl⟩
  · rw [if_pos hx]
    go_enter Tryz.func90, Tryz.ntmps90
    go_wp2
    refine wp_loop_rounds 1 ?_
    rw [rounds_succ]
    go_wp2
    go_ret
    exact ⟨rfl, rfl⟩
theorem strCompare (a b : ByteArray) (w : World) : Calls Tryz.prog 91 #[.string a, .string b] w fun e w' => e = .returned (.int .i64 (Lib.compareBytes a.data.toList b.data.toList)) ∧ w' = w :=
  Any.strings_Compare (ρ := laysCompare_ren) laysCompare a b w
theorem cmpC_is (x y : Cl) : orI (Lib.compareBytes x.t.data.toList y.t.data.toList) (Lib.compareBytes x.r.data.toList y.r.data.toList) = cmpC x y := rfl
set_option maxRecDepth 100000 in
set_option maxHeartbeats 2000000 in
theorem compare_any (x y : Cl) (W : World) :
    Calls Tryz.prog 62 #[.agg #[.string x.t, .string x.r, .string x.s, .string x.v], .agg #[.string y.t, .string y.r, .string y.s, .string y.v]] W fun e w' => e = .returned (.int .i64 (cmpC x y)) ∧ ∃ q os', w' = grow (W.drewN q) os' := by
  have T := hide (fun wx => strCompare x.t y.t wx)
  have R := hide (fun wx => strCompare x.r y.r wx)
  rw [← cmpC_is]
  generalize Lib.compareBytes x.t.data.toList y.t.data.toList = a at T ⊢
  generalize Lib.compareBytes x.r.data.toList y.r.data.toList = b at R ⊢
  have hrow : HasR (((W.alloc (.cells #[.string x.t, .string x.r, .string x.s, .string x.v] 42)).alloc (.cells #[.string y.t, .string y.r, .string y.s, .string y.v] 42)).alloc (.cells #[.int .i64 a, .int .i64 b] 3)).drew (W.heap.size + 1 + 1) 3 #[.int .i64 a, .int .i64 b] :=
    (HasR.new' (by simp) 3 _).drew
  have O := hide (or_any (W.heap.size + 1 + 1) a b _ (hrow.cell 0) (hrow.cell 1))
  clear hrow
  generalize orI a b = o at O ⊢
  go_enter Tryz.func62, Tryz.ntmps62
  go_wp2
  go_region_held3 (fun wx => wx.cell? ⟨W.heap.size, 0, none⟩ = some (.string x.t) ∧ wx.cell? ⟨W.heap.size, 1, none⟩ = some (.string x.r) ∧ wx.cell? ⟨W.heap.size + 1, 0, none⟩ = some (.string y.t) ∧ wx.cell? ⟨W.heap.size + 1, 1, none⟩ = some (.string y.r)) (go_keep)
    (first
    | (go_at_call 91; (with_reducible refine (T.out _).mono ?_); rintro e w1 ⟨rfl, rfl⟩)
    | (go_at_call 91; (with_reducible refine (R.out _).mono ?_); rintro e w1 ⟨rfl, rfl⟩)
    | (go_at_call 90; (with_reducible refine O.out.mono ?_); rintro e w1 ⟨rfl, rfl⟩))
  go_wp2
  go_ret
  exact ⟨rfl, 1, _, by rw [alloc_eq_grow, alloc_eq_grow, alloc_eq_grow, grow_grow, grow_grow]; rfl⟩
/-- What it says to the sort. -/
theorem ltOf_cmpC : ltOf cmpC = ltC := by
  funext a b
  exact cmpC_lt a b
theorem cmpLays (blk off size : Nat) (w : World) : CmpLays Tryz.prog 62 #[] cellL 4 cmpC blk off size w := fun _ _ _ _ x y => compare_any x y _
end Go.Proofs.YtkbaalenbpgheaaGreatDoor
