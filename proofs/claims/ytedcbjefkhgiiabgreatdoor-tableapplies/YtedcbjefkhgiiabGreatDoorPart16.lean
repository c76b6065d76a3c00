/- Texts of this proof, one behind the other. -/
import Derived.Laws.StructEq
import Derived.Shelf.SlSortFuncK.WholeK
import Derived.BigQuiet
import Derived.Test.YtedcbjefkhgiiabGreatDoorPart15
/- Cells held against each other, one by one and in rows; a fact: rows. -/
namespace Go.Proofs.YtedcbjefkhgiiabGreatDoor
open Go.RowKit Go.Sort
attribute [local go_sem ↓] Go.wp_at_zero Go.wp_at_succ
set_option linter.unusedSectionVars false
variable [Inhabited Cl]
theorem held42 : Tryz.prog.stoodInHeld 44 = false := by kernel_rfl
theorem fields42 : Tryz.prog.underlying 44 = some (.struct (Tryz.prog.fieldsOf 44)) := by kernel_rfl
theorem guard42 : Tryz.prog.eqGuardType Tryz.prog.depth 44 = false := by kernel_rfl
def eqC (x y : Cl) : Bool := (x.t.toList == y.t.toList) && ((x.r.toList == y.r.toList) && ((x.s.toList == y.s.toList) && (x.v.toList == y.v.toList)))
theorem eqC_iff {x y : Cl} : eqC x y = true ↔ x = y := by
  unfold eqC
  rw [same_bytes, same_bytes, same_bytes, same_bytes]
  simp only [Bool.and_eq_true, decide_eq_true_eq]
  constructor
  · rintro ⟨h1, h2, h3, h4⟩
    cases x; cases y
    simp only at h1 h2 h3 h4
    rw [h1, h2, h3, h4]
  · rintro rfl
    exact ⟨rfl, rfl, rfl, rfl⟩
theorem eqC_self (x : Cl) : eqC x x = true := eqC_iff.2 rfl
set_option maxRecDepth 100000 in
theorem cell_equal (x y : Cl) (w : World) : (Op.equalIn 10000 44 (.agg #[.string x.t, .string x.r, .string x.s, .string x.v]) (.agg #[.string y.t, .string y.r, .string y.s, .string y.v])).run Tryz.prog w = .ok (eqC x y) w := by
  rw [show (10000 : Nat) = 9999 + 1 from rfl, run_equalIn_agg w 9999 44 _ _ fields42 held42]
  simp only [Program.fieldsOf, Tryz.underlying44]
  unfold eqC
  go_simp
  by_cases h1 : x.t.toList = y.t.toList <;> by_cases h2 : x.r.toList = y.r.toList <;> by_cases h3 : x.s.toList = y.s.toList <;> by_cases h4 : x.v.toList = y.v.toList <;> simp [h1, h2, h3, h4]
set_option maxRecDepth 100000 in
theorem cell_eql (x y : Cl) (w : World) : (binOp .eql 44 (.agg #[.string x.t, .string x.r, .string x.s, .string x.v]) (.agg #[.string y.t, .string y.r, .string y.s, .string y.v])).run Tryz.prog w = .ok (.bool (eqC x y)) w := by
  rw [run_eql_struct, cell_equal]; rfl
set_option maxRecDepth 100000 in
theorem cell_neq (x y : Cl) (w : World) : (binOp .neq 44 (.agg #[.string x.t, .string x.r, .string x.s, .string x.v]) (.agg #[.string y.t, .string y.r, .string y.s, .string y.v])).run Tryz.prog w = .ok (.bool (!eqC x y)) w := by
  rw [run_neq_struct, cell_equal]; rfl
end Go.Proofs.YtedcbjefkhgiiabGreatDoor

/- The library's sort.Slice with a 'less' that may make blocks: what each of its functions is told; its insertion sort. -/
namespace Go.Proofs.YtedcbjefkhgiiabGreatDoor
open Go.RowKit Go.Sort
attribute [local go_sem ↓] Go.wp_at_zero Go.wp_at_succ
set_option linter.unusedSectionVars false
variable [Inhabited Cl]
/-- The row holds d, and nothing else that was there when the sort began has turned. -/
structure Srt (w0 : World) (blk : Nat) (w : World) (d : Array Cl) : Prop where
  row : HoldsK cellL 4 w blk 0 d
  but : Stirred [blk] w0 w
  lt : blk < w0.heap.size
theorem Srt.still {w0 w w' : World} {blk : Nat} {d : Array Cl} (h : Srt w0 blk w d) (k : Below w.heap.size w w') : Srt w0 blk w' d :=
  ⟨holdsK_same h.row (k.block blk (Nat.lt_of_lt_of_le h.lt h.but.size)), h.but.then_below k, h.lt⟩
/-- What is asked of 'less': it tells, and turns nothing that is there. -/
def LessS (w0 : World) (blk n : Nat) (g : Nat) (lb : Array Value) : Prop :=
  ∀ (W : World) (d : Array Cl), Srt w0 blk W d → d.size = n → ∀ i j : Nat, i < n → j < n → Calls Tryz.prog g (#[.int .i64 i, .int .i64 j] ++ lb) W fun e w' => e = .returned (.bool (ltC d[i]! d[j]!)) ∧ Below W.heap.size W w'
theorem stirred_cells (blk o : Nat) : ∀ (l : List Value) (w : World), Stirred [blk] w (w.setCells blk o l)
  | [], w => by unfold World.setCells; exact Stirred.refl _ _
  | v :: l, w => by
    unfold World.setCells
    exact (Stirred.setCell w ⟨blk, o, none⟩ v).andThen (stirred_cells blk (o + 1) l _) (fun j hj => .inl hj)
/-- Behind a swap. -/
theorem Srt.swap {w0 w : World} {blk : Nat} {d : Array Cl} {i j : Nat} (h : Srt w0 blk w d) (hi : i < d.size) (hj : j < d.size) :
    Srt w0 blk ((w.setCells blk (0 + i * 4) (cellL d[j]!)).setCells blk (0 + j * 4) (cellL d[i]!)) (swp d i j) ∧ Stirred [blk] w ((w.setCells blk (0 + i * 4) (cellL d[j]!)).setCells blk (0 + j * 4) (cellL d[i]!)) := by
  have st : Stirred [blk] w ((w.setCells blk (0 + i * 4) (cellL d[j]!)).setCells blk (0 + j * 4) (cellL d[i]!)) := (stirred_cells blk _ _ w).andThen (stirred_cells blk _ _ _) (fun j hj => .inl hj)
  refine ⟨⟨?_, h.but.andThen st (fun j hj => .inl hj), h.lt⟩, st⟩
  have e := swap_worldK cellL 4 (fun _ => rfl) w 0 0 blk 0 d i j hi hj
  have e0 : putRowK cellL 4 (Sort.ahead w 0) blk 0 d = w := putRowK_self cellL 4 w blk 0 d h.row
  rw [e0] at e
  have e1 : w.drewN 0 = w := rfl
  rw [e1] at e
  rw [e]
  exact holdsK_putRowK cellL 4 _ blk 0 d _ h.row (size_swp _ _ _)
end Go.Proofs.YtedcbjefkhgiiabGreatDoor
