/- Texts of this proof, one behind the other. -/
import Derived.Test.YtkbaalenbpgheaaGreatDoorRows
import Derived.Test.YtkbaalenbpgheaaGreatDoorCards
import Derived.Test.YtkbaalenbpgheaaGreatDoorTie
import Derived.ProofKit
import Derived.LaidMore
import Derived.OpenShut
import Derived.Lay
import Derived.Stop.Joined
import Derived.Stop.LaidErr
import Derived.LaidHandle
import Derived.Lib.LaidTab
import Derived.HandedShaped
import Derived.SevenTiedAt
import Derived.Test.YtkbaalenbpgheaaGreatDoorPart28
/- What the rows' conditions give the walks: the table of the sum, the table of kinds, the library's own number and its type of errors; and the wrap that hands the world's shape on. -/
namespace Go.Proofs.YtkbaalenbpgheaaGreatDoor
open Go.ChangeShapes Go.WideShapes Go.ChangeAt Go.RowKit

/-- The variables' names, as the rows list them. -/
def nameA : String := (Rows.sourceForgetsRow.laid.map (·.1)).getD 0 ""
def nameH : String := (Rows.sourceForgetsRow.laid.map (·.1)).getD 1 ""
def nameK : String := (Rows.sourceForgetsRow.laid.map (·.1)).getD 2 ""
def nameL : String := (Rows.sourceForgetsRow.laid.map (·.1)).getD 3 ""
def nameF : String := (Rows.sourceForgetsRow.laid.map (·.1)).getD 4 ""
def typeH : String := match Rows.sourceForgetsRow.laid with
  | _ :: (_, .iface n _) :: _ => n
  | _ => ""
theorem gL : Tryz.prog.globalNamed nameL = some 1 := by kernel_rfl
theorem tL : (Tryz.prog.globals[1]?).map (·.type) = some 169 := by kernel_rfl
theorem cellsLy : Tryz.prog.cellsOf 168 = 2 := by kernel_rfl
theorem cellsLs : Tryz.prog.cellsOf 169 = 8 := by kernel_rfl
theorem gK : Tryz.prog.globalNamed nameK = some 3 := by kernel_rfl
theorem tK : (Tryz.prog.globals[3]?).map (·.type) = some 272 := by kernel_rfl
theorem c217 : Tryz.prog.cellsOf 190 = 1 := by kernel_rfl
theorem c258 : Tryz.prog.cellsOf 272 = 64 := by kernel_rfl
theorem etH : Tryz.prog.globalNamed nameH = some 0 := by kernel_rfl
theorem rtH : (Tryz.prog.cutTypes.find? (·.1 == typeH)).map (·.2) = some 199 := by kernel_rfl
theorem oneRowH : ((List.range 310).filter fun t => Tryz.prog.rowNamed t [101, 114, 114, 111, 114]) = [32] := by kernel_rfl
theorem typesSizeH : Tryz.prog.types.size = 310 := by kernel_rfl
/-- A row of the table. -/
theorem lay_elem {H : Type} {enc : TypeId × Value → H} {W : World} {base : Nat} {sp : Nat → Bool} {held : Bool} {m : Nat} {c : List Value} {x : DataW H × List MemPlace} (h : DataW.trod enc Tryz.prog W base sp held m 168 c = some x) (l : List UInt8) (z : Int) (hx : x.1 = .agg [.lit (.string l), .lit (.int .i64 z)]) : c = [.string ⟨l.toArray⟩, .int .i64 z] := by
  obtain ⟨y0, y1, n, rfl, hl, h0, h1⟩ := trod_struct2 Tryz.underlying168 h
  rw [cellsLy] at hl
  simp only [cells3, cells9] at h0 h1
  match c, hl with
  | [c0, c1], _ =>
    obtain ⟨s, e0, rfl, _⟩ := DataW.trod_string Tryz.underlying9 h0
    obtain ⟨k, e1, rfl, _⟩ := DataW.trod_int Tryz.underlying3 h1
    simp at e0 e1 hx
    rw [e0, e1, hx.2, ← hx.1, Lib.mk_data]
set_option maxRecDepth 100000 in
/-- The table of kinds, out of the row's condition and the world's shape. -/
theorem tabL_of {W : World} (hsh : W.ShapedOpen Tryz.prog) {l : List (String × DataW Unit)} (h : laidMet Tryz.prog ((nameL, Rows.laid_oubliette_event_layouts) :: l) W) : TabL W := by
  obtain ⟨ps, ⟨g, t, cs, fuel, p, q, hg, ht, hv, hd, _, _⟩, _, _⟩ := h
  obtain rfl : 1 = g := Option.some.inj (gL.symm.trans hg)
  obtain rfl : 169 = t := Option.some.inj (tL.symm.trans ht)
  obtain ⟨ds, hds, _, _⟩ := hsh.1 1 #[.string ⟨#[]⟩, .int .i64 0, .string ⟨#[]⟩, .int .i64 0, .string ⟨#[]⟩, .int .i64 0, .string ⟨#[]⟩, .int .i64 0] 169 (of_decide_eq_true (by kernel_rfl)) (by kernel_rfl)
  have hcs : ds = cs := by
    have hv' : W.var? Tryz.prog nameL = some cs := hv
    simp only [World.var?, gL, Option.bind_some, hds] at hv'
    exact Option.some.inj hv'
  subst hcs
  show W.heap[1]? = some (.cells layRow 169 (0, 0))
  rw [hds]
  obtain ⟨xs, m, _, ex, hl, hlen, hel⟩ := DataW.trod_array Tryz.underlying169 hd
  rw [cellsLs] at hl
  have ed := (Prod.mk.inj ex).1
  have e1 : xs.map (·.1) = [.agg [.lit (.string []), .lit (.int .i64 0)], .agg [.lit (.string [112, 117, 116]), .lit (.int .i64 5)], .agg [.lit (.string [100, 101, 108]), .lit (.int .i64 4)], .agg [.lit (.string [103, 111, 110, 101]), .lit (.int .i64 2)]] := (DataW.agg.inj ed).symm
  match xs, hlen, e1, hel with
  | [y0, y1, y2, y3], _, e1, hel =>
    simp only [List.map_cons, List.map_nil, List.cons.injEq, and_true] at e1
    obtain ⟨a0, a1, a2, a3⟩ := e1
    have b0 := lay_elem (x := y0) (by simpa [cellsLy] using hel 0 (by decide)) _ _ a0
    have b1 := lay_elem (x := y1) (by simpa [cellsLy] using hel 1 (by decide)) _ _ a1
    have b2 := lay_elem (x := y2) (by simpa [cellsLy] using hel 2 (by decide)) _ _ a2
    have b3 := lay_elem (x := y3) (by simpa [cellsLy] using hel 3 (by decide)) _ _ a3
    have hall : ds.toList = [.string ⟨#[]⟩, .int .i64 0, .string ⟨#[112, 117, 116]⟩, .int .i64 5, .string ⟨#[100, 101, 108]⟩, .int .i64 4, .string ⟨#[103, 111, 110, 101]⟩, .int .i64 2] := by
      match hL : ds.toList, hl with
      | [c0, c1, c2, c3, c4, c5, c6, c7], _ =>
        rw [hL] at b0 b1 b2 b3
        simp at b0 b1 b2 b3
        simp [b0, b1, b2, b3]
    have hrow : ds = layRow := by
      apply Array.ext'
      rw [hall]; rfl
    rw [hrow]
/-- The library's own number, out of the world's shape. -/
theorem tabM_of {W : World} (hsh : W.ShapedOpen Tryz.prog) : TabM W := laysSplitN.s1_3 W hsh
/-- The numbers of the turns as the row lists them. -/
def kInts : List Int := kNat.map fun (n : Nat) => (n : Int)
theorem kInts_ok : (List.range 64).all (fun i => decide (N (wd kTab i) = kInts.getD i 0)) = true := by decide +kernel
theorem tabK_of {W : World} {l : List (String × DataW Unit)} (h : laidMet Tryz.prog ((nameK, Rows.laid_oubliette_sum_roundNumbers) :: l) W) : TabK W := by
  have hK := Lib.tabIs_of_head (k := .u32) (zs := kInts) gK tK Tryz.underlying272 Tryz.underlying190 c217 c258 h
  intro i hi
  rw [hK.cell gK i (by show i < 64; exact hi)]
  have h4 := List.all_eq_true.1 kInts_ok i (by simp; omega)
  rw [← of_decide_eq_true h4]
theorem tabE_ofH {W : World} (h : handlesMet Tryz.prog [(nameH, Rows.laid_errors_errorType)] W) : TabE W := by
  obtain ⟨name, u, ty, e1, e2, e3, e4, e5⟩ := h _ (List.mem_singleton.2 rfl)
  have en : name = [101, 114, 114, 111, 114] := (Option.some.inj e1).symm
  subst en
  obtain rfl := Option.some.inj (rtH.symm.trans e2)
  have hm : ty ∈ (List.range 310).filter fun t => Tryz.prog.rowNamed t [101, 114, 114, 111, 114] := List.mem_filter.2 ⟨List.mem_range.2 (by rw [← typesSizeH]; exact e3), e4⟩
  rw [oneRowH] at hm
  obtain rfl := List.mem_singleton.1 hm
  have hh : typeHandle Tryz.prog 32 = .pointer (some ⟨6, 32, none⟩) := by kernel_rfl
  rw [hh] at e5
  unfold TabE
  simpa using World.var?_cell etH e5 0
/-- The listed data, less the handle. -/
def dataL : List (String × DataW Unit) := [(nameA, Rows.laid_unicode_utf8_acceptRanges), (nameK, Rows.laid_oubliette_sum_roundNumbers), (nameL, Rows.laid_oubliette_event_layouts), (nameF, Rows.laid_unicode_utf8_first)]
/-- What the rows' condition and the world's shape give the walks. -/
theorem tabs_of {W : World} (hsh : W.ShapedOpen Tryz.prog) (h : laidMetH Tryz.prog Rows.sourceForgetsRow.laid W) : Tabs W := by
  have h' : laidMet Tryz.prog dataL W ∧ handlesMet Tryz.prog [(nameH, Rows.laid_errors_errorType)] W := h
  exact ⟨tabK_of (laidMet.tail h'.1), tabL_of hsh (laidMet.tail (laidMet.tail h'.1)), tabM_of hsh, tabE_ofH h'.2⟩
/-- A list of variables, laid by the function over whatever world. -/
theorem laidMet_on {P : Program} {w0 w' : World} {l : List (String × DataW Unit)} (hh : w'.heap = (w0.layVars P l).heap) (hf : w0.layFits P l [] = true) (hi : w0.layIfaces P l w' = true) : laidMet P l w' := by
  have e1 : (l.filter fun x => (l.map (·.1)).contains x.1) = l := List.filter_eq_self.2 fun x hx => List.contains_iff_mem.2 (List.mem_map.2 ⟨x, hx, rfl⟩)
  have e2 : (l.filter fun x => !(l.map (·.1)).contains x.1) = [] := List.filter_eq_nil_iff.2 fun x hx => by rw [List.contains_iff_mem.2 (List.mem_map.2 ⟨x, hx, rfl⟩)]; simp
  exact laidMet_layVars (w0 := w0) (l.map (·.1)) [] (by rw [e1]; exact hh) (by rw [e1]; exact hf) (by rw [e1]; exact hi) (by rw [e2]; exact LaidIn.none)
set_option maxRecDepth 100000 in
/-- The library's wrap of a row that lists variables, with the world's shape handed on besides. -/
theorem returns_listed {H : Type} {enc : TypeId × Value → H} {os : Os} {f : FuncId} {fn : Func} {s : ChangeSpec} {L : List (String × DataW Unit)}
    (started : os.Started) (noInit : Tryz.checked.prog.inits.idxOf? f = none) (hfn : Tryz.checked.prog.funcs[f]? = some fn)
    (witness : ∃ (w : World) (tape : Tape) (i : Input), w.os = os ∧ (w.forCall tape i).Shaped Tryz.checked.prog ∧ i.vars = [] ∧ Input.okWide Tryz.checked.prog (w.forCall tape i) .any w.heap.size f i ∧
      ((s.pre enc Tryz.checked.prog fn [] false (w.forCall tape i).memory i.args ∧ laidMetH Tryz.prog L (w.forCall tape i).memory) ∧ sizedMet enc Tryz.checked.prog fn (OpenSpec.ofChange s) false (w.forCall tape i).memory i.args) ∧ ({} : Assume).holds Tryz.checked.prog (lone (Frame.enter Tryz.checked.prog f i.args .normal) [] (w.forCall tape i)))
    (walk : ∀ (W : World) (base : Nat) (args : Array Value) (ds gs : List (DataW H)) (before : List MemPlace),
      (∀ (j : Nat) t v, fn.params[j]? = some t → args[j]? = some v → Value.okWide Tryz.prog W .any base t v) →
      DataW.Whole enc Tryz.checked.prog fn.params.toList s.vars false W args.toList ds gs before → W.ShapedOpen Tryz.prog → laidMetH Tryz.prog L W →
      Calls Tryz.prog f args W fun e W' => ∃ v, e = .returned v ∧ s.post enc Tryz.checked.prog fn false true false false W args v W') :
    ReturnsInHanded {} Tryz.checked os f .any (fun w args => (s.pre enc Tryz.prog fn [] false w args ∧ laidMetH Tryz.prog L w) ∧ sizedMet enc Tryz.prog fn (OpenSpec.ofChange s) false w args) (s.post enc Tryz.prog fn false true false false) := by
  refine returnsInHanded_of_calls own started noInit witness ?_
  intro w tape i _ hsh _ hok hpre _
  obtain ⟨_, _, _, fn', hfn', _, _, _, _, hval⟩ := hok
  obtain rfl : fn' = fn := Option.some.inj (hfn'.symm.trans hfn)
  obtain ⟨⟨⟨ds, gs, before, hw, _⟩, hx⟩, _⟩ := hpre
  refine (walk (w.forCall tape i) w.heap.size i.args ds gs before hval (DataW.Whole.of_heap (w' := w.forCall tape i) (by rfl) hw) hsh (hx.of_heap (by rfl))).mono fun e W' ⟨v, he, hp⟩ => ?_
  subst he
  exact ChangeSpec.post_blind hp
end Go.Proofs.YtkbaalenbpgheaaGreatDoor

/- Two rows of cells that are the same, held against each other by the law. -/
namespace Go.Proofs.YtkbaalenbpgheaaGreatDoor
open Go.RowKit Go.Sort
attribute [local go_sem ↓] Go.wp_at_zero Go.wp_at_succ
set_option linter.unusedSectionVars false
variable [Inhabited Cl]
theorem four_of {W : World} {blk : Nat} {d : Array Cl} {i : Nat} (h : HoldsK cellL 4 W blk 0 d) (hi : i < d.size) : W.cell? ⟨blk, i * 4, none⟩ = some (.string d[i]!.t) ∧ W.cell? ⟨blk, i * 4 + 1, none⟩ = some (.string d[i]!.r) ∧ W.cell? ⟨blk, i * 4 + 2, none⟩ = some (.string d[i]!.s) ∧ W.cell? ⟨blk, i * 4 + 3, none⟩ = some (.string d[i]!.v) := by
  refine ⟨?_, ?_, ?_, ?_⟩
  · have := (h.cell (i := i) (c := 0) hi (by omega)).1
    simpa [cellL] using this
  · have := (h.cell (i := i) (c := 1) hi (by omega)).1
    simpa [cellL] using this
  · have := (h.cell (i := i) (c := 2) hi (by omega)).1
    simpa [cellL] using this
  · have := (h.cell (i := i) (c := 3) hi (by omega)).1
    simpa [cellL] using this
theorem RowC.at {w : World} {base n cap k : Nat} {p : Option Addr} {l : List Cl} (h : RowC w base (.slice p n cap) l) (hk : k < l.length) : ∃ g, p = some ⟨g, 0, none⟩ ∧ g < w.heap.size ∧ l.length ≤ cap ∧ w.cell? ⟨g, k * 4, none⟩ = some (.string l[k]!.t) ∧ w.cell? ⟨g, k * 4 + 1, none⟩ = some (.string l[k]!.r) ∧ w.cell? ⟨g, k * 4 + 2, none⟩ = some (.string l[k]!.s) ∧ w.cell? ⟨g, k * 4 + 3, none⟩ = some (.string l[k]!.v) := by
  rcases h with ⟨_, rfl⟩ | ⟨g, cap', e, h1, h2, h3, h4, h5⟩
  · simp at hk
  · injection e with e1 e2 e3
    subst e1 e3
    obtain ⟨c0, c1, c2, c3⟩ := four_of h5 (i := k) (by rw [List.size_toArray]; exact hk)
    have e : l.toArray[k]! = l[k]! := by simp
    rw [e] at c0 c1 c2 c3
    exact ⟨g, rfl, h2, h3, c0, c1, c2, c3⟩
theorem RowC.slice {w : World} {base : Nat} {v : Value} {l : List Cl} (h : RowC w base v l) : ∃ p cap, v = .slice p l.length cap := by
  rcases h with ⟨rfl, rfl⟩ | ⟨g, cap, rfl, _⟩
  · exact ⟨_, _, rfl⟩
  · exact ⟨_, _, rfl⟩
theorem below_dn {B : Nat} {a w : World} (h : Below B a w) (n : Nat) : Below B a (w.drewN n) := h.trans ⟨rfl, rfl, rfl, Nat.le_refl _, fun _ _ => rfl⟩
end Go.Proofs.YtkbaalenbpgheaaGreatDoor

/- The law's own closure: a cell at the place of one that was; slices.IndexFunc of cells. -/
namespace Go.Proofs.YtkbaalenbpgheaaGreatDoor
open Go.RowKit Go.Sort Go.Shelf
attribute [local go_sem ↓] Go.wp_at_zero Go.wp_at_succ
set_option linter.unusedSectionVars false
def laysIdx_ren : Go.Shelf.Ren := ⟨fun | 6 => 51 | n => n, fun | 22 => 45 | 23 => 42 | 25 => 43 | 4 => 4 | 3 => 3 | 0 => 0 | n => n, fun | n => n⟩
theorem laysIdx : Go.Proofs.SlLaysH0.n6 Tryz.prog laysIdx_ren := {
  mixed := by kernel_rfl
  f6 := ⟨Tryz.f51.name, by decide, Tryz.func51.trans (congrArg some (by kernel_rfl))⟩
  t0 := Tryz.underlying0
  a0 := Tryz.isAgg0
  z0 := Tryz.sizeOf0
  v0 := Tryz.zeroValue0
  t3 := Tryz.underlying3
  a3 := Tryz.isAgg3
  z3 := Tryz.sizeOf3
  v3 := Tryz.zeroValue3
  t4 := Tryz.underlying4
  a4 := Tryz.isAgg4
  z4 := Tryz.sizeOf4
  v4 := Tryz.zeroValue4
  t22 := Tryz.underlying45
  a22 := Tryz.isAgg45
  z22 := Tryz.sizeOf45
  v22 := Tryz.zeroValue45
  t25 := Tryz.underlying43
  a25 := Tryz.isAgg43
  z25 := Tryz.sizeOf43
  v25 := Tryz.zeroValue43 }
variable [Inhabited Cl] [Inhabited Ev]
/-- At the place of d. -/
def hereC (d c : Cl) : Bool := decide (c.t = d.t) && decide (c.r = d.r)
set_option maxRecDepth 100000 in
set_option maxHeartbeats 1000000 in
theorem idxNone (p : Option Addr) (c : Nat) (fv : Value) (w : World) : Calls Tryz.prog 51 #[.slice p 0 c, fv] w fun e w' => e = .returned (.int .i64 (-1)) ∧ w' = w := by
  go_enter Tryz.func51, Tryz.ntmps51
  go_wp2
  refine wp_loop_rounds 1 ?_
  rw [rounds_succ]
  go_wp2
  go_ret
  exact ⟨rfl, rfl⟩
/-- Where a cell lies at the place of one that was. -/
def placeC (d : Cl) (cs : List Cl) : Int := Lib.idxBy (fun _ y => hereC d y) cs default
end Go.Proofs.YtkbaalenbpgheaaGreatDoor
