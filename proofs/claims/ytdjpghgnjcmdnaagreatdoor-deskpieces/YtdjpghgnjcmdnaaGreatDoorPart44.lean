/- For every two texts: DeskPieces returns true, and each argument reads behind the call as it did before. The library's variables and the program's start as their texts lay them (the card ties that). -/
import Derived.Test.YtdjpghgnjcmdnaaGreatDoorRows
import Derived.Test.YtdjpghgnjcmdnaaGreatDoorCards
import Derived.Test.YtdjpghgnjcmdnaaGreatDoorTie
import Derived.ProofKit
import Derived.LaidMore
import Derived.OpenShut
import Derived.Lay
import Derived.Stop.Joined
import Derived.Stop.LaidErr
import Derived.LaidHandle
import Derived.Lib.LaidTab
import Derived.HandedShaped
import Derived.SevenTiedAt
import Derived.Test.YtdjpghgnjcmdnaaGreatDoorPart43
/- What the rows' conditions give the walks: the table of the sum, the table of kinds, the library's own number and its type of errors; and the wrap that hands the world's shape on. -/
namespace Go.Proofs.YtdjpghgnjcmdnaaGreatDoor
open Go.ChangeShapes Go.WideShapes Go.ChangeAt Go.RowKit

/-- The variables' names, as the rows list them. -/
def nameB32 : String := (Rows.deskPiecesRow.laid.map (·.1)).getD 0 ""
def nameB64 : String := (Rows.deskPiecesRow.laid.map (·.1)).getD 1 ""
def nameP : String := (Rows.deskPiecesRow.laid.map (·.1)).getD 2 ""
def nameA : String := (Rows.deskPiecesRow.laid.map (·.1)).getD 3 ""
def nameH : String := (Rows.deskPiecesRow.laid.map (·.1)).getD 4 ""
def nameK : String := (Rows.deskPiecesRow.laid.map (·.1)).getD 5 ""
def nameR : String := (Rows.deskPiecesRow.laid.map (·.1)).getD 6 ""
def nameY : String := (Rows.deskPiecesRow.laid.map (·.1)).getD 7 ""
def nameL : String := (Rows.deskPiecesRow.laid.map (·.1)).getD 8 ""
def nameF : String := (Rows.deskPiecesRow.laid.map (·.1)).getD 9 ""
def typeH : String := match Rows.deskPiecesRow.laid with
  | _ :: _ :: _ :: _ :: (_, .iface n _) :: _ => n
  | _ => ""
theorem gL : Tryz.prog.globalNamed nameL = some 0 := by kernel_rfl
theorem tL : (Tryz.prog.globals[0]?).map (·.type) = some 170 := by kernel_rfl
theorem cellsLy : Tryz.prog.cellsOf 169 = 2 := by kernel_rfl
theorem cellsLs : Tryz.prog.cellsOf 170 = 8 := by kernel_rfl
theorem gK : Tryz.prog.globalNamed nameK = some 3 := by kernel_rfl
theorem tK : (Tryz.prog.globals[3]?).map (·.type) = some 245 := by kernel_rfl
theorem c217 : Tryz.prog.cellsOf 149 = 1 := by kernel_rfl
theorem c258 : Tryz.prog.cellsOf 245 = 64 := by kernel_rfl
theorem gP : Tryz.prog.globalNamed nameP = some 1 := by kernel_rfl
theorem tP : (Tryz.prog.globals[1]?).map (·.type) = some 203 := by kernel_rfl
theorem cP1 : Tryz.prog.cellsOf 114 = 1 := by kernel_rfl
theorem cP20 : Tryz.prog.cellsOf 203 = 20 := by kernel_rfl
theorem gR : Tryz.prog.globalNamed nameR = some 8 := by kernel_rfl
theorem tR : (Tryz.prog.globals[8]?).map (·.type) = some 45 := by kernel_rfl
theorem gY : Tryz.prog.globalNamed nameY = some 7 := by kernel_rfl
theorem tY : (Tryz.prog.globals[7]?).map (·.type) = some 45 := by kernel_rfl
theorem gB64 : Tryz.prog.globalNamed nameB64 = some 10 := by kernel_rfl
theorem etH : Tryz.prog.globalNamed nameH = some 2 := by kernel_rfl
theorem rtH : (Tryz.prog.cutTypes.find? (·.1 == typeH)).map (·.2) = some 270 := by kernel_rfl
theorem oneRowH : ((List.range Tryz.prog.types.size).filter fun t => Tryz.prog.rowNamed t [101, 114, 114, 111, 114]) = [45] := by kernel_rfl
theorem cells3 : Tryz.prog.cellsOf 3 = 1 := by kernel_rfl
theorem ownD : ownKnob Tryz.prog.godebug = none := by kernel_rfl
/-- A row of the table. -/
theorem lay_elem {H : Type} {enc : TypeId × Value → H} {W : World} {base : Nat} {sp : Nat → Bool} {held : Bool} {m : Nat} {c : List Value} {x : DataW H × List MemPlace} (h : DataW.trod enc Tryz.prog W base sp held m 169 c = some x) (l : List UInt8) (z : Int) (hx : x.1 = .agg [.lit (.string l), .lit (.int .i64 z)]) : c = [.string ⟨l.toArray⟩, .int .i64 z] := by
  obtain ⟨y0, y1, n, rfl, hl, h0, h1⟩ := trod_struct2 Tryz.underlying169 h
  rw [cellsLy] at hl
  simp only [cells3, cells9] at h0 h1
  match c, hl with
  | [c0, c1], _ =>
    obtain ⟨s, e0, rfl, _⟩ := DataW.trod_string Tryz.underlying9 h0
    obtain ⟨k, e1, rfl, _⟩ := DataW.trod_int Tryz.underlying3 h1
    simp at e0 e1 hx
    rw [e0, e1, hx.2, ← hx.1, Lib.mk_data]
set_option maxRecDepth 100000 in
/-- The table of kinds, out of the row's condition and the world's shape. -/
theorem tabL_of {W : World} (hsh : W.ShapedOpen Tryz.prog) {l : List (String × DataW Unit)} (h : laidMet Tryz.prog ((nameL, Rows.laid_oubliette_event_layouts) :: l) W) : TabL W := by
  obtain ⟨ps, ⟨g, t, cs, fuel, p, q, hg, ht, hv, hd, _, _⟩, _, _⟩ := h
  obtain rfl : 0 = g := Option.some.inj (gL.symm.trans hg)
  obtain rfl : 170 = t := Option.some.inj (tL.symm.trans ht)
  obtain ⟨ds, hds, _, _⟩ := hsh.1 0 #[.string ⟨#[]⟩, .int .i64 0, .string ⟨#[]⟩, .int .i64 0, .string ⟨#[]⟩, .int .i64 0, .string ⟨#[]⟩, .int .i64 0] 170 (of_decide_eq_true (by kernel_rfl)) (by kernel_rfl)
  have hcs : ds = cs := by
    have hv' : W.var? Tryz.prog nameL = some cs := hv
    simp only [World.var?, gL, Option.bind_some, hds] at hv'
    exact Option.some.inj hv'
  subst hcs
  show W.heap[0]? = some (.cells layRow 170 (0, 0))
  rw [hds]
  obtain ⟨xs, m, _, ex, hl, hlen, hel⟩ := DataW.trod_array Tryz.underlying170 hd
  rw [cellsLs] at hl
  have ed := (Prod.mk.inj ex).1
  have e1 : xs.map (·.1) = [.agg [.lit (.string []), .lit (.int .i64 0)], .agg [.lit (.string [112, 117, 116]), .lit (.int .i64 5)], .agg [.lit (.string [100, 101, 108]), .lit (.int .i64 4)], .agg [.lit (.string [103, 111, 110, 101]), .lit (.int .i64 2)]] := (DataW.agg.inj ed).symm
  match xs, hlen, e1, hel with
  | [y0, y1, y2, y3], _, e1, hel =>
    simp only [List.map_cons, List.map_nil, List.cons.injEq, and_true] at e1
    obtain ⟨a0, a1, a2, a3⟩ := e1
    have b0 := lay_elem (x := y0) (by simpa [cellsLy] using hel 0 (by decide)) _ _ a0
    have b1 := lay_elem (x := y1) (by simpa [cellsLy] using hel 1 (by decide)) _ _ a1
    have b2 := lay_elem (x := y2) (by simpa [cellsLy] using hel 2 (by decide)) _ _ a2
    have b3 := lay_elem (x := y3) (by simpa [cellsLy] using hel 3 (by decide)) _ _ a3
    have hall : ds.toList = [.string ⟨#[]⟩, .int .i64 0, .string ⟨#[112, 117, 116]⟩, .int .i64 5, .string ⟨#[100, 101, 108]⟩, .int .i64 4, .string ⟨#[103, 111, 110, 101]⟩, .int .i64 2] := by
      match hL : ds.toList, hl with
      | [c0, c1, c2, c3, c4, c5, c6, c7], _ =>
        rw [hL] at b0 b1 b2 b3
        simp at b0 b1 b2 b3
        simp [b0, b1, b2, b3]
    have hrow : ds = layRow := by
      apply Array.ext'
      rw [hall]; rfl
    rw [hrow]
/-- The library's own number, out of the world's shape. -/
theorem tabM_of {W : World} (hsh : W.ShapedOpen Tryz.prog) : TabM W := laysSplitN.s1_3 W hsh
/-- The numbers of the turns as the row lists them. -/
def kInts : List Int := kNat.map fun (n : Nat) => (n : Int)
theorem kInts_ok : (List.range 64).all (fun i => decide (N (wd kTab i) = kInts.getD i 0)) = true := by decide +kernel
theorem tabK_of {W : World} {l : List (String × DataW Unit)} (h : laidMet Tryz.prog ((nameK, Rows.laid_oubliette_sum_roundNumbers) :: l) W) : TabK W := by
  have hK := Lib.tabIs_of_head (k := .u32) (zs := kInts) gK tK Tryz.underlying245 Tryz.underlying149 c217 c258 h
  intro i hi
  rw [hK.cell gK i (by show i < 64; exact hi)]
  have h4 := List.all_eq_true.1 kInts_ok i (by simp; omega)
  rw [← of_decide_eq_true h4]
theorem tabE_ofH {W : World} (h : handlesMet Tryz.prog [(nameH, Rows.laid_errors_errorType)] W) : TabE W := by
  obtain ⟨name, u, ty, e1, e2, e3, e4, e5⟩ := h _ (List.mem_singleton.2 rfl)
  have en : name = [101, 114, 114, 111, 114] := (Option.some.inj e1).symm
  subst en
  obtain rfl := Option.some.inj (rtH.symm.trans e2)
  have hm : ty ∈ (List.range Tryz.prog.types.size).filter fun t => Tryz.prog.rowNamed t [101, 114, 114, 111, 114] := List.mem_filter.2 ⟨List.mem_range.2 e3, e4⟩
  rw [oneRowH] at hm
  obtain rfl := List.mem_singleton.1 hm
  have hh : typeHandle Tryz.prog 45 = .pointer (some ⟨11, 45, none⟩) := by kernel_rfl
  rw [hh] at e5
  unfold TabE
  simpa using World.var?_cell etH e5 0
theorem heap_of_var {W : World} {n : String} {g : Nat} {cs : Array Value} (hg : Tryz.prog.globalNamed n = some g) (h : W.var? Tryz.prog n = some cs) : ∃ t fz, W.heap[g]? = some (.cells cs t fz) := by
  unfold World.var? at h
  rw [hg] at h
  simp only [Option.bind_some] at h
  split at h
  · rename_i cs' t fz hh
    cases h
    exact ⟨t, fz, hh⟩
  · cases h
/-- The library's powers of ten. -/
theorem pow_of {W : World} {l : List (String × DataW Unit)} (h : laidMet Tryz.prog ((nameP, Rows.laid_internal_strconv_uint64pow10) :: l) W) : Pow W :=
  heap_of_var gP (Lib.tabIs_of_head (k := .u64) (zs := Lib.pow10Tab) gP tP Tryz.underlying203 Tryz.underlying114 cP1 cP20 h)
theorem nameY_eq : nameY = "strconv.ErrSyntax" := by kernel_rfl
/-- The library's error of form, as its variable holds it. -/
theorem errv_of {W : World} {n nm : String} {d : DataW Unit} {g : Nat} {l : List (String × DataW Unit)} (hg : Tryz.prog.globalNamed n = some g) (ht : (Tryz.prog.globals[g]?).map (·.type) = some 45) (h : laidMet Tryz.prog ((n, .iface nm d) :: l) W) : ∃ t p, W.var? Tryz.prog n = some #[.iface t p] := by
  obtain ⟨ps, ⟨g0, t0, cs, fuel, p, q, hg0, ht0, hv, hd, _, _⟩, _, _⟩ := h
  obtain rfl := Option.some.inj (hg.symm.trans hg0)
  obtain rfl := Option.some.inj (ht.symm.trans ht0)
  obtain ⟨f1, u, v, e, _⟩ := iface_of_trod Tryz.underlying45 hd
  refine ⟨u, v, ?_⟩
  rw [hv]
  obtain ⟨l0⟩ := cs
  simp only at e
  subst e
  rfl
/-- A variable that holds one of the library's errors. -/
theorem err_of {W : World} {n nm : String} {d : DataW Unit} {g : Nat} {l : List (String × DataW Unit)} (hg : Tryz.prog.globalNamed n = some g) (ht : (Tryz.prog.globals[g]?).map (·.type) = some 45) (h : laidMet Tryz.prog ((n, .iface nm d) :: l) W) : ∃ t p, W.cell? ⟨g, 0, none⟩ = some (.iface t p) := by
  obtain ⟨ps, ⟨g0, t0, cs, fuel, p, q, hg0, ht0, hv, hd, _, _⟩, _, _⟩ := h
  obtain rfl := Option.some.inj (hg.symm.trans hg0)
  obtain rfl := Option.some.inj (ht.symm.trans ht0)
  obtain ⟨f1, u, v, e, _⟩ := iface_of_trod Tryz.underlying45 hd
  refine ⟨u, v, ?_⟩
  have := World.var?_cell hg hv 0
  rw [this]
  obtain ⟨l0⟩ := cs
  simp only at e
  subst e
  rfl
/-- The world holds all the variables. -/
theorem size_of {W : World} {d : DataW Unit} {l : List (String × DataW Unit)} (h : laidMet Tryz.prog ((nameB64, d) :: l) W) : 11 ≤ W.heap.size := by
  obtain ⟨ps, ⟨g0, t0, cs, fuel, p, q, hg0, ht0, hv, hd, _, _⟩, _, _⟩ := h
  obtain ⟨t, fz, hh⟩ := heap_of_var gB64 hv
  have := (Array.getElem?_eq_some_iff.1 hh).1
  omega
/-- The listed data, less the handle. -/
def dataL : List (String × DataW Unit) := [(nameB32, Rows.laid_math_bits_deBruijn32tab), (nameB64, Rows.laid_math_bits_deBruijn64tab), (nameP, Rows.laid_internal_strconv_uint64pow10), (nameA, Rows.laid_unicode_utf8_acceptRanges), (nameK, Rows.laid_oubliette_sum_roundNumbers), (nameR, Rows.laid_strconv_ErrRange), (nameY, Rows.laid_strconv_ErrSyntax), (nameL, Rows.laid_oubliette_event_layouts), (nameF, Rows.laid_unicode_utf8_first)]
/-- What the rows' condition and the world's shape give the walks: how many blocks lie there. -/
theorem low_of {W : World} (h : laidMetH Tryz.prog Rows.deskPiecesRow.laid W) : 11 ≤ W.heap.size := by
  have h' : laidMet Tryz.prog dataL W ∧ handlesMet Tryz.prog [(nameH, Rows.laid_errors_errorType)] W := h
  exact size_of (laidMet.tail h'.1)
/-- .. all of it. -/
theorem vars_of [Inhabited LowT] {W : World} (hsh : W.ShapedOpen Tryz.prog) (h : laidMetH Tryz.prog Rows.deskPiecesRow.laid W) (hn : lowK ≤ W.heap.size) : Vars W := by
  have h' : laidMet Tryz.prog dataL W ∧ handlesMet Tryz.prog [(nameH, Rows.laid_errors_errorType)] W := h
  have h1 := laidMet.tail h'.1
  have h2 := laidMet.tail h1
  have h4 := laidMet.tail (laidMet.tail h2)
  have h5 := laidMet.tail h4
  have h6 := laidMet.tail h5
  have h7 := laidMet.tail h6
  exact ⟨tabK_of h4, tabL_of hsh h7, tabM_of hsh, tabE_ofH h'.2, pow_of h2, ⟨nameY_eq ▸ errv_of gY tY h6, err_of gR tR h5⟩, hn⟩
/-- A list of variables, laid by the function over whatever world. -/
theorem laidMet_on {P : Program} {w0 w' : World} {l : List (String × DataW Unit)} (hh : w'.heap = (w0.layVars P l).heap) (hf : w0.layFits P l [] = true) (hi : w0.layIfaces P l w' = true) : laidMet P l w' := by
  have e1 : (l.filter fun x => (l.map (·.1)).contains x.1) = l := List.filter_eq_self.2 fun x hx => List.contains_iff_mem.2 (List.mem_map.2 ⟨x, hx, rfl⟩)
  have e2 : (l.filter fun x => !(l.map (·.1)).contains x.1) = [] := List.filter_eq_nil_iff.2 fun x hx => by rw [List.contains_iff_mem.2 (List.mem_map.2 ⟨x, hx, rfl⟩)]; simp
  exact laidMet_layVars (w0 := w0) (l.map (·.1)) [] (by rw [e1]; exact hh) (by rw [e1]; exact hf) (by rw [e1]; exact hi) (by rw [e2]; exact LaidIn.none)
set_option maxRecDepth 100000 in
/-- The library's wrap of a row that lists variables, with the world's shape handed on besides. -/
theorem returns_listed {H : Type} {enc : TypeId × Value → H} {os : Os} {f : FuncId} {fn : Func} {s : ChangeSpec} {L : List (String × DataW Unit)}
    (started : os.Started) (noInit : Tryz.checked.prog.inits.idxOf? f = none) (hfn : Tryz.checked.prog.funcs[f]? = some fn)
    (witness : ∃ (w : World) (tape : Tape) (i : Input), w.os = os ∧ (w.forCall tape i).Shaped Tryz.checked.prog ∧ i.vars = [] ∧ Input.okWide Tryz.checked.prog (w.forCall tape i) .any w.heap.size f i ∧
      ((s.pre enc Tryz.checked.prog fn [] false (w.forCall tape i).memory i.args ∧ laidMetH Tryz.prog L (w.forCall tape i).memory) ∧ sizedMet enc Tryz.checked.prog fn (OpenSpec.ofChange s) false (w.forCall tape i).memory i.args) ∧ ({} : Assume).holds Tryz.checked.prog (lone (Frame.enter Tryz.checked.prog f i.args .normal) [] (w.forCall tape i)))
    (walk : ∀ (W : World) (base : Nat) (args : Array Value) (ds gs : List (DataW H)) (before : List MemPlace),
      (∀ (j : Nat) t v, fn.params[j]? = some t → args[j]? = some v → Value.okWide Tryz.prog W .any base t v) →
      DataW.Whole enc Tryz.checked.prog fn.params.toList s.vars false W args.toList ds gs before → W.ShapedOpen Tryz.prog → laidMetH Tryz.prog L W →
      Calls Tryz.prog f args W fun e W' => ∃ v, e = .returned v ∧ s.post enc Tryz.checked.prog fn false true false false W args v W') :
    ReturnsInHanded {} Tryz.checked os f .any (fun w args => (s.pre enc Tryz.prog fn [] false w args ∧ laidMetH Tryz.prog L w) ∧ sizedMet enc Tryz.prog fn (OpenSpec.ofChange s) false w args) (s.post enc Tryz.prog fn false true false false) := by
  refine returnsInHanded_of_calls ownD started noInit witness ?_
  intro w tape i _ hsh _ hok hpre _
  obtain ⟨_, _, _, fn', hfn', _, _, _, _, hval⟩ := hok
  obtain rfl : fn' = fn := Option.some.inj (hfn'.symm.trans hfn)
  obtain ⟨⟨⟨ds, gs, before, hw, _⟩, hx⟩, _⟩ := hpre
  refine (walk (w.forCall tape i) w.heap.size i.args ds gs before hval (DataW.Whole.of_heap (w' := w.forCall tape i) (by rfl) hw) hsh (hx.of_heap (by rfl))).mono fun e W' ⟨v, he, hp⟩ => ?_
  subst he
  exact ChangeSpec.post_blind hp
end Go.Proofs.YtdjpghgnjcmdnaaGreatDoor

namespace Go.Proofs.YtdjpghgnjcmdnaaGreatDoor
open Go.ChangeShapes Go.WideShapes Go.ChangeAt Go.RowKit
open Go.ChangeMaps (open_string shut_string)
set_option maxRecDepth 100000 in
theorem deskPieces_lifted (os : Os) (started : os.Started) (H : Type) (enc : TypeId × Value → H) :
    ReturnsInHanded {} Tryz.checked os 3 .any (fun w args => (Rows.deskPiecesSpec.pre enc Tryz.prog Tryz.f3 [] false w args ∧ laidMetH Tryz.prog Rows.deskPiecesRow.laid w) ∧ sizedMet enc Tryz.prog Tryz.f3 (OpenSpec.ofChange Rows.deskPiecesSpec) false w args)
      (Rows.deskPiecesSpec.post enc Tryz.prog Tryz.f3 false true false false) := by
  refine returns_listed started (by kernel_rfl) Tryz.func3
    (ChangeSpec.witness_shaped (enc := enc) (C := Tryz.checked) (os := os) (X := fun w _ => laidMetH Tryz.prog Rows.deskPiecesRow.laid w) false (((World.holding Tryz.prog os ⟨#[], #[], []⟩).setCell ⟨2, 0, none⟩ (.iface 270 (.agg #[.pointer (some ⟨11, 45, none⟩)]))).layVars Tryz.prog dataL) #[.string ByteArray.empty, .string ByteArray.empty] 8 (World.layVars_os _ _ _)
      (World.shaped_of_ZipB (by kernel_rfl) (by kernel_rfl)) (by kernel_rfl) (by kernel_rfl) (by kernel_rfl)
      (laidMetH_of_parts (show laidMet Tryz.prog dataL _ from laidMet_on (w0 := (World.holding Tryz.prog os ⟨#[], #[], []⟩).setCell ⟨2, 0, none⟩ (.iface 270 (.agg #[.pointer (some ⟨11, 45, none⟩)]))) (by simp [World.memory, World.forCall, Input.heap]) (by kernel_rfl) (by kernel_rfl)) (by kernel_rfl))) ?_
  intro W base args ds gs before hval0 hW hsh hL
  have hval : ∀ (j : Nat) t v, Tryz.f3.params[j]? = some t → args[j]? = some v → Value.okWide Tryz.prog W .any base t v := hval0
  have hW' := hW
  obtain ⟨p, q, hA0, hV, rfl, hfz, hnd⟩ := hW
  have hA : DataW.TrodAll enc Tryz.prog W 0 (fun _ => true) true Tryz.f3.params.toList args.toList ds p := hA0
  rw [Tryz.params3] at hA hval
  obtain ⟨v0, vs0, d0, ds0, p0, q0, hargs, rfl, rfl, h0, r0⟩ := trodAll_cons hA
  obtain ⟨v1, vs1, d1, ds1, p1, q1, rfl, rfl, rfl, h1, r1⟩ := trodAll_cons r0
  obtain ⟨rfl, rfl, rfl⟩ := trodAll_nil r1
  obtain rfl : args = #[v0, v1] := by cases args; simp_all
  obtain ⟨rfl, rfl⟩ := trodVars_none hV
  letI : Inhabited Cl := ⟨cl0⟩
  letI : Inhabited Ev := ⟨ev0⟩
  obtain ⟨s0, rfl, rfl, rfl, hs0⟩ := open_string Tryz.underlying9 (hval 0 9 v0 rfl rfl) h0
  obtain ⟨s1, rfl, rfl, rfl, hs1⟩ := open_string Tryz.underlying9 (hval 1 9 v1 rfl rfl) h1
  clear hA0 hval0
  simp only [List.append_nil] at hW'
  letI : Inhabited LowT := ⟨⟨W.heap.size, low_of hL⟩⟩
  refine (pieces_law s0 s1 W (vars_of hsh hL (Nat.le_refl W.heap.size))).mono fun x W' ⟨he, bel0⟩ => ?_
  have bel : Below W.heap.size W W' := bel0
  subst he
  exact ⟨_, rfl, _, _, _, [], _, [], hW', trodAll_mk1 (shut_bool Tryz.underlying4 _), (trodAll_cons_mk (shut_string Tryz.underlying9 hs0) (trodAll_cons_mk (shut_string Tryz.underlying9 hs1) (trodAll_mk0))), rfl, bel.frame _, fun h => by cases h⟩
theorem deskPieces_row_holds : Rows.DeskPiecesSaid :=
  OpenClaim.holds_of_wide 3 Tryz.f3 rfl rfl rfl rfl rfl rfl rfl ⟨rfl, rfl, rfl, rfl, rfl⟩ rfl rfl rfl rfl rfl (by kernel_rfl) Tryz.func3 (by kernel_rfl)
    (of_decide_eq_true (by kernel_rfl)) (by unfold Func.isWrapper; first | (rw [if_pos (by decide +kernel)]; kernel_rfl) | (rw [if_neg (by decide +kernel)]; exact ⟨rfl, rfl⟩))
    (fun os started H enc _ => deskPieces_lifted os started H enc)
theorem deskPieces_holds : Rows.DeskPiecesCardSaid :=
  Claim7.holds_tied_plain_at .later [] [.data, .data, .data, .data, .handle, .data, .sentinel, .sentinel, .data, .pinned] true (true, "4f17b175ce6b976662577587d83091acba7645255dc9f1e2c52dfe4323eeaea4") true
    deskPieces_row_holds (fun _ h => by cases h) (by kernel_rfl) (fun _ h => by cases h) deskPieces_row_tie rfl ⟨rfl, rfl⟩ (by kernel_rfl) rfl
    (fun f fn hf hfn => by
      obtain rfl : f = 3 := Option.some.inj ((show Tryz.prog.funcNamed Rows.deskPiecesRow.func = some 3 by kernel_rfl).symm.trans hf) |>.symm
      obtain rfl : fn = Tryz.f3 := (Option.some.inj (Tryz.func3.symm.trans hfn)).symm
      exact ⟨by kernel_rfl, fun j t ht => by
        rw [Tryz.params3] at ht
        have hm : t ∈ [9, 9] := by simpa using Array.mem_of_getElem? ht
        have hall : ([9, 9].all fun u => !Tryz.prog.wantsStandIn u) = true := by kernel_rfl
        exact (show Tryz.prog.wantsStandIn t = false by simpa using List.all_eq_true.1 hall t hm)⟩)
    (by kernel_rfl)
end Go.Proofs.YtdjpghgnjcmdnaaGreatDoor
