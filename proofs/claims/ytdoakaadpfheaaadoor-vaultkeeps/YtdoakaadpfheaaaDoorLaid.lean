/- What the listed variables give the walks: the library's type of errors, and the table of the sum. -/
import Derived.Test.YtdoakaadpfheaaaDoorRows
import Derived.Test.YtdoakaadpfheaaaDoorCards
import Derived.Test.YtdoakaadpfheaaaDoorTie
import Derived.Test.YtdoakaadpfheaaaDoorMark
import Derived.Test.YtdoakaadpfheaaaDoorBare
import Derived.ProofKit
import Derived.LaidMore
import Derived.OpenShut
import Derived.Stop.Joined
import Derived.Stop.LaidErr
import Derived.LaidHandle
import Derived.Lib.LaidTab
import Derived.SevenTiedAt
namespace Go.Proofs.YtdoakaadpfheaaaDoor
open Go.ChangeShapes Go.WideShapes Go.ChangeAt Go.RowKit

theorem own : ownKnob Tryd.prog.godebug = none := by kernel_rfl
theorem laidOut : laidOutB Tryd.prog = true := by kernel_rfl
/-- The names of the variables that the row lists, and of the type that the handle's datum names. -/
def nameE : String := (Rows.boxSealsRow.laid.map (·.1)).getD 0 ""
def nameK : String := (Rows.boxSealsRow.laid.map (·.1)).getD 1 ""
def typeName : String := match Rows.boxSealsRow.laid with
  | (_, .iface n _) :: _ => n
  | _ => ""
theorem et : Tryd.prog.globalNamed nameE = some 0 := by kernel_rfl
theorem rt : (Tryd.prog.cutTypes.find? (·.1 == typeName)).map (·.2) = some 167 := by kernel_rfl
theorem oneRow : ((List.range 230).filter fun t => Tryd.prog.rowNamed t [101, 114, 114, 111, 114]) = [34] := by kernel_rfl
theorem typesSize : Tryd.prog.types.size = 230 := by kernel_rfl
theorem gK : Tryd.prog.globalNamed nameK = some 1 := by kernel_rfl
theorem tK : (Tryd.prog.globals[1]?).map (·.type) = some 71 := by kernel_rfl
theorem c69 : Tryd.prog.cellsOf 69 = 1 := by kernel_rfl
theorem c71 : Tryd.prog.cellsOf 71 = 64 := by kernel_rfl
/-- The numbers of the turns as the row lists them. -/
def kInts : List Int := kNat.map fun (n : Nat) => (n : Int)
theorem kInts_ok : (List.range 64).all (fun i => decide (N (wd kTab i) = kInts.getD i 0)) = true := by decide +kernel
/-- The table, listed first. -/
theorem tabK_of {W : World} {l : List (String × DataW Unit)} (h : laidMet Tryd.prog ((nameK, Rows.laid_oubliette_sum_roundNumbers) :: l) W) : TabK W := by
  have hK := Lib.tabIs_of_head (k := .u32) (zs := kInts) gK tK Tryd.underlying71 Tryd.underlying69 c69 c71 h
  intro i hi
  rw [hK.cell gK i (by show i < 64; exact hi)]
  have h4 := List.all_eq_true.1 kInts_ok i (by simp; omega)
  rw [← of_decide_eq_true h4]
/-- The library's variable. -/
theorem tabE_of {W : World} (h : handlesMet Tryd.prog [(nameE, Rows.laid_errors_errorType)] W) : TabE W := by
  obtain ⟨name, u, ty, e1, e2, e3, e4, e5⟩ := h _ (List.mem_singleton.2 rfl)
  have en : name = [101, 114, 114, 111, 114] := (Option.some.inj e1).symm
  subst en
  obtain rfl := Option.some.inj (rt.symm.trans e2)
  have hm : ty ∈ (List.range 230).filter fun t => Tryd.prog.rowNamed t [101, 114, 114, 111, 114] := List.mem_filter.2 ⟨List.mem_range.2 (by rw [← typesSize]; exact e3), e4⟩
  rw [oneRow] at hm
  obtain rfl := List.mem_singleton.1 hm
  have hh : typeHandle Tryd.prog 34 = .pointer (some ⟨6, 34, none⟩) := by kernel_rfl
  rw [hh] at e5
  unfold TabE
  simpa using World.var?_cell et e5 0
/-- What a condition on both gives the walks; on the table alone. -/
theorem of_both {W : World} (h : laidMetH Tryd.prog Rows.boxSealsRow.laid W) : TabE W ∧ TabK W := by
  have h' : laidMet Tryd.prog [(nameK, Rows.laid_oubliette_sum_roundNumbers)] W ∧ handlesMet Tryd.prog [(nameE, Rows.laid_errors_errorType)] W := h
  exact ⟨tabE_of h'.2, tabK_of h'.1⟩
theorem of_tab {W : World} (h : laidMetH Tryd.prog Rows.boxBackRow.laid W) : TabK W := by
  have h' : laidMet Tryd.prog [(nameK, Rows.laid_oubliette_sum_roundNumbers)] W := h
  exact tabK_of h'
/-- The door's own heap meets the conditions. -/
theorem door_both (os : Os) (args : Array Value) : laidMetH Tryd.prog Rows.boxSealsRow.laid ((World.doorLaid Tryd.prog 36 os).forCall (fun _ _ => 0) ⟨#[], args, []⟩).memory :=
  laidMetH_of_parts (laidMet_of_run' 8 (by kernel_rfl) (by kernel_rfl)) (by kernel_rfl)
theorem door_tab (os : Os) (args : Array Value) : laidMetH Tryd.prog Rows.boxBackRow.laid ((World.doorLaid Tryd.prog 36 os).forCall (fun _ _ => 0) ⟨#[], args, []⟩).memory :=
  laidMetH_of_parts3 (fuel := 8) (laidMet_of_run' 8 (by kernel_rfl) (by kernel_rfl)) (by kernel_rfl) (by kernel_rfl)
end Go.Proofs.YtdoakaadpfheaaaDoor
