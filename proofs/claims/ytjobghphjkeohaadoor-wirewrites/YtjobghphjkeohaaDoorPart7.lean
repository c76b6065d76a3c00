/- Texts of this proof, one behind the other. -/
import Derived.Test.YtjobghphjkeohaaDoorRows
import Derived.Test.YtjobghphjkeohaaDoorCards
import Derived.Test.YtjobghphjkeohaaDoorTie
import Derived.ProofKit
import Derived.LaidMore
import Derived.OpenShut
import Derived.Stop.Joined
import Derived.Stop.LaidErr
import Derived.LaidHandle
import Derived.Lib.LaidTab
import Derived.SevenTiedAt
import Derived.WalkKit
import Derived.WalkSpells
import Derived.WalkLawsBesides
import Derived.Test.YtjobghphjkeohaaDoorPart6
/- The law's own look at an error: none, and the program's own. -/
namespace Go.Proofs.YtjobghphjkeohaaDoor
open Go.RowKit Go.Extern.Stop Go.Stop Go.Extern
/-- The library's own variable lies where it was laid. -/
def TabE (w : World) : Prop := w.cell? ⟨0, 0, none⟩ = some (.iface 106 (.agg #[.pointer (some ⟨2, 31, none⟩)]))
theorem TabE.lt {w : World} (h : TabE w) : 0 < w.heap.size := block_lt_of_cell h
theorem TabE.below {w w' : World} {B : Nat} (h : TabE w) (hb : Below B w w') (hB : 0 < B) : TabE w' := by
  unfold TabE
  rw [hb.cell (p := ⟨0, 0, none⟩) hB]; exact h
theorem asW_below (w : World) (b : Nat) (n : Int) (hb : b ≤ w.heap.size) : Below b w (asW w ⟨b, 0, none⟩ n) := by
  unfold asW
  exact (((((Below.refl b w).alloc hb _).alloc (by simp; omega) _).alloc (by simp; omega) _).alloc (by simp; omega) _).setCell (Nat.le_refl _) _
theorem Tryd.at75 (n : Int) (w : World) : (Instr.typeAssert (.iface 27 (.int .i64 n)) 31 70 true).run Tryd.prog w = .ok (.tuple #[.pointer none, .bool false]) w := by kernel_rfl
theorem Tryd.un79 (n : Int) (w : World) : (Instr.typeAssert (.iface 27 (.int .i64 n)) 31 74 true).run Tryd.prog w = .ok (.tuple #[.nilIface, .bool false]) w := run_typeAssert_lacksB Tryd.underlying74 (by kernel_rfl) (by kernel_rfl) _ _ _
set_option maxRecDepth 100000 in
set_option maxHeartbeats 400000 in
theorem tell_nil (w : World) : Calls Tryd.prog 34 #[.nilIface] w fun e w' => e = .returned (.int .i64 0) ∧ w' = w := by
  go_enter Tryd.func34, Tryd.ntmps34
  go_wp2
  go_ret
  exact ⟨rfl, rfl⟩
set_option maxRecDepth 100000 in
set_option maxHeartbeats 400000 in
theorem tell_arg (n : Int) (w : World) (hE : TabE w) : Calls Tryd.prog 34 #[.iface 27 (.int .i64 n)] w fun e w' => e = .returned (.int .i64 n) ∧ Below w.heap.size w w' := by
  have hl := hE.lt
  have q := as_hit ⟨w.heap.size, 0, none⟩ n (.int .i64 0) (w.alloc (.cells #[.int .i64 0] 27)) (by rw [World.cell?_alloc_lt _ _ ⟨0, 0, none⟩ hl]; exact hE) (by simp) (by simp)
  have hb := asW_below (w.alloc (.cells #[.int .i64 0] 27)) w.heap.size n (by simp)
  have hc : (asW (w.alloc (.cells #[.int .i64 0] 27)) ⟨w.heap.size, 0, none⟩ n).cell? ⟨w.heap.size, 0, none⟩ = some (.int .i64 n) := by
    unfold asW
    refine World.cell?_setCell_same _ _ _ (u := .int .i64 0) ?_
    rw [World.cell?_alloc_lt _ _ ⟨w.heap.size, 0, none⟩ (by simp; omega), World.cell?_alloc_lt _ _ ⟨w.heap.size, 0, none⟩ (by simp; omega), World.cell?_alloc_lt _ _ ⟨w.heap.size, 0, none⟩ (by simp; omega), World.cell?_alloc_lt _ _ ⟨w.heap.size, 0, none⟩ (by simp)]
    simp
  generalize asW (w.alloc (.cells #[.int .i64 0] 27)) ⟨w.heap.size, 0, none⟩ n = W at q hb hc
  have Q := hide q
  clear q
  go_enter Tryd.func34, Tryd.ntmps34
  go_wp2_with (go_at_call 44; refine Q.out.mono ?_; rintro e w1 ⟨rfl, rfl⟩)
  go_ret
  exact ⟨rfl, ((Below.refl _ w).alloc (Nat.le_refl _) _).trans hb⟩
set_option maxRecDepth 100000 in
set_option maxHeartbeats 400000 in
theorem place_nil (w : World) : Calls Tryd.prog 22 #[.nilIface] w fun e w' => e = .returned (.tuple #[.int .i64 0, .int .i64 (-1)]) ∧ w' = w := by
  go_enter Tryd.func22, Tryd.ntmps22
  go_wp2_with (go_at_call 34; refine (tell_nil _).mono ?_; rintro e w1 ⟨rfl, rfl⟩)
  go_loopw [0] (fun i wr => i = .nilIface ∧ wr = w1) (fun _ _ => 0)
  case atStart => exact ⟨rfl, rfl⟩
  case round =>
    obtain ⟨rfl, hw⟩ := hrel
    subst hw
    go_wp2
    go_ret2
    exact ⟨rfl, rfl⟩
set_option maxRecDepth 100000 in
set_option maxHeartbeats 400000 in
theorem place_arg (n : Int) (w : World) (hE : TabE w) : Calls Tryd.prog 22 #[.iface 27 (.int .i64 n)] w fun e w' => e = .returned (.tuple #[.int .i64 n, .int .i64 (-1)]) ∧ Below w.heap.size w w' := by
  have Q := hide (tell_arg n w hE)
  have a1 := Tryd.at75 n
  have a2 := Tryd.un79 n
  go_enter Tryd.func22, Tryd.ntmps22
  go_wp2_with (go_at_call 34; refine Q.out.mono ?_; rintro e w1 ⟨rfl, hb1⟩)
  go_loopw [0] (fun i wr => i = .iface 27 (.int .i64 n) ∧ wr = w1) (fun _ _ => 0)
  case atStart => exact ⟨rfl, rfl⟩
  case round =>
    obtain ⟨rfl, hw⟩ := hrel
    subst hw
    go_wp2
    go_ret2
    exact ⟨rfl, hb1⟩
set_option maxRecDepth 100000 in
set_option maxHeartbeats 400000 in
theorem bare_nil (w : World) : Calls Tryd.prog 8 #[.nilIface, .int .i64 0] w fun e w' => e = .returned (.bool true) ∧ w' = w := by
  go_enter Tryd.func8, Tryd.ntmps8
  go_wp2_with (go_at_call 22; refine (place_nil _).mono ?_; rintro e w1 ⟨rfl, rfl⟩)
  go_ret
  exact ⟨rfl, rfl⟩
set_option maxRecDepth 100000 in
set_option maxHeartbeats 400000 in
theorem bare_arg (w : World) (hE : TabE w) : Calls Tryd.prog 8 #[.iface 27 (.int .i64 1), .int .i64 1] w fun e w' => e = .returned (.bool true) ∧ Below w.heap.size w w' := by
  have Q := hide (place_arg 1 w hE)
  go_enter Tryd.func8, Tryd.ntmps8
  go_wp2_with (go_at_call 22; refine Q.out.mono ?_; rintro e w1 ⟨rfl, hb⟩)
  go_ret
  exact ⟨rfl, hb⟩
end Go.Proofs.YtjobghphjkeohaaDoor

/- What the listed variables give the walks: the library's type of errors, and the table of the sum; and a record that came in. -/
namespace Go.Proofs.YtjobghphjkeohaaDoor
open Go.ChangeShapes Go.WideShapes Go.ChangeAt Go.RowKit

theorem own : ownKnob Tryd.prog.godebug = none := by kernel_rfl
theorem laidOut : laidOutB Tryd.prog = true := by kernel_rfl
/-- The names of the variables that the row lists, and of the type that the handle's datum names. -/
def nameE : String := (Rows.wireWritesRow.laid.map (·.1)).getD 0 ""
def nameK : String := (Rows.wireWritesRow.laid.map (·.1)).getD 1 ""
def typeName : String := match Rows.wireWritesRow.laid with
  | (_, .iface n _) :: _ => n
  | _ => ""
theorem et : Tryd.prog.globalNamed nameE = some 0 := by kernel_rfl
theorem rt : (Tryd.prog.cutTypes.find? (·.1 == typeName)).map (·.2) = some 106 := by kernel_rfl
theorem oneRow : ((List.range 148).filter fun t => Tryd.prog.rowNamed t [101, 114, 114, 111, 114]) = [31] := by kernel_rfl
theorem typesSize : Tryd.prog.types.size = 148 := by kernel_rfl
theorem gK : Tryd.prog.globalNamed nameK = some 1 := by kernel_rfl
theorem tK : (Tryd.prog.globals[1]?).map (·.type) = some 48 := by kernel_rfl
theorem c46 : Tryd.prog.cellsOf 46 = 1 := by kernel_rfl
theorem c48 : Tryd.prog.cellsOf 48 = 64 := by kernel_rfl
/-- The numbers of the turns as the row lists them. -/
def kInts : List Int := kNat.map fun (n : Nat) => (n : Int)
theorem kInts_ok : (List.range 64).all (fun i => decide (N (wd kTab i) = kInts.getD i 0)) = true := by decide +kernel
/-- The table, listed first. -/
theorem tabK_of {W : World} {l : List (String × DataW Unit)} (h : laidMet Tryd.prog ((nameK, Rows.laid_oubliette_sum_roundNumbers) :: l) W) : TabK W := by
  have hK := Lib.tabIs_of_head (k := .u32) (zs := kInts) gK tK Tryd.underlying48 Tryd.underlying46 c46 c48 h
  intro i hi
  rw [hK.cell gK i (by show i < 64; exact hi)]
  have h4 := List.all_eq_true.1 kInts_ok i (by simp; omega)
  rw [← of_decide_eq_true h4]
/-- The library's variable. -/
theorem tabE_of {W : World} (h : handlesMet Tryd.prog [(nameE, Rows.laid_errors_errorType)] W) : TabE W := by
  obtain ⟨name, u, ty, e1, e2, e3, e4, e5⟩ := h _ (List.mem_singleton.2 rfl)
  have en : name = [101, 114, 114, 111, 114] := (Option.some.inj e1).symm
  subst en
  obtain rfl := Option.some.inj (rt.symm.trans e2)
  have hm : ty ∈ (List.range 148).filter fun t => Tryd.prog.rowNamed t [101, 114, 114, 111, 114] := List.mem_filter.2 ⟨List.mem_range.2 (by rw [← typesSize]; exact e3), e4⟩
  rw [oneRow] at hm
  obtain rfl := List.mem_singleton.1 hm
  have hh : typeHandle Tryd.prog 31 = .pointer (some ⟨2, 31, none⟩) := by kernel_rfl
  rw [hh] at e5
  unfold TabE
  simpa using World.var?_cell et e5 0
/-- What a condition on both gives the walks; on the table alone. -/
theorem of_both {W : World} (h : laidMetH Tryd.prog Rows.wireWritesRow.laid W) : TabE W ∧ TabK W := by
  have h' : laidMet Tryd.prog [(nameK, Rows.laid_oubliette_sum_roundNumbers)] W ∧ handlesMet Tryd.prog [(nameE, Rows.laid_errors_errorType)] W := h
  exact ⟨tabE_of h'.2, tabK_of h'.1⟩
theorem c23 : Tryd.prog.cellsOf 23 = 5 := by kernel_rfl
theorem c3 : Tryd.prog.cellsOf 3 = 1 := by kernel_rfl
theorem c9 : Tryd.prog.cellsOf 9 = 1 := by kernel_rfl
/-- The door's own heap meets the conditions. -/
theorem door_both (os : Os) (args : Array Value) : laidMetH Tryd.prog Rows.wireWritesRow.laid ((World.doorLaid Tryd.prog 21 os).forCall (fun _ _ => 0) ⟨#[], args, []⟩).memory :=
  laidMetH_of_parts (laidMet_of_run' 8 (by kernel_rfl) (by kernel_rfl)) (by kernel_rfl)
set_option maxRecDepth 100000 in
/-- A record that came in: two numbers and three texts. -/
theorem record_of {H : Type} {enc : TypeId × Value → H} {W : World} {base : Nat} {sp : Nat → Bool} {held : Bool} {v : Value} {d : DataW H} {p : List MemPlace} {r : Reach} {b0 : Nat} (hv : Value.okWide Tryd.prog W r b0 23 v) (h : DataW.Trod enc Tryd.prog W base sp held 23 v d p) :
    ∃ (q : Int) (s : ByteArray) (g : Int) (p d : ByteArray), v = .agg #[.int .i64 q, .string s, .int .i64 g, .string p, .string d] := by
  obtain ⟨cs, rfl, hsz⟩ := okWide_struct Tryd.underlying23 hv
  obtain ⟨fuel, hf⟩ := h
  obtain ⟨xs, n, _, _, hl, hlen, hfs⟩ := DataW.trod_struct Tryd.underlying23 hf
  have hl' : cs.toList.length = 5 := by rw [Array.length_toList, hsz, c23]
  have hcs : (Value.agg cs).cells.toList = cs.toList := rfl
  rw [hcs] at hfs
  match xs, hlen, hfs with
  | [y0, y1, y2, y3, y4], _, hfs =>
    match hL : cs.toList, hl' with
    | [x0, x1, x2, x3, x4], _ =>
      have g0 := hfs 0 _ rfl
      have g1 := hfs 1 _ rfl
      have g2 := hfs 2 _ rfl
      have g3 := hfs 3 _ rfl
      have g4 := hfs 4 _ rfl
      simp only [hL] at g0 g1 g2 g3 g4
      obtain ⟨q, e0, _⟩ := DataW.trod_int Tryd.underlying3 g0
      obtain ⟨s, e1, _⟩ := DataW.trod_string Tryd.underlying9 g1
      obtain ⟨g, e2, _⟩ := DataW.trod_int Tryd.underlying3 g2
      obtain ⟨p, e3, _⟩ := DataW.trod_string Tryd.underlying9 g3
      obtain ⟨d, e4, _⟩ := DataW.trod_string Tryd.underlying9 g4
      simp [c3, c9] at e0 e1 e2 e3 e4
      refine ⟨q, s, g, p, d, ?_⟩
      congr 1
      apply Array.ext'
      rw [hL, e0, e1, e2, e3, e4]
end Go.Proofs.YtjobghphjkeohaaDoor

/- The document's own test of bounds. -/
namespace Go.Proofs.YtjobghphjkeohaaDoor
open Go.RowKit
end Go.Proofs.YtjobghphjkeohaaDoor
