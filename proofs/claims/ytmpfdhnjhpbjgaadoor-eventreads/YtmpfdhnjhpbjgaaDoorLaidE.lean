/- What the rows of the events' laws give the walks: the table of kinds as the program's text lays it, the library's own number; and the wrap that hands the world's shape on. -/
import Derived.Test.YtmpfdhnjhpbjgaaDoorRows
import Derived.Test.YtmpfdhnjhpbjgaaDoorCards
import Derived.Test.YtmpfdhnjhpbjgaaDoorTie
import Derived.Test.YtmpfdhnjhpbjgaaDoorPrint
import Derived.ProofKit
import Derived.LaidMore
import Derived.OpenShut
import Derived.Lay
import Derived.Stop.Joined
import Derived.HandedShaped
import Derived.SevenTiedAt
namespace Go.Proofs.YtmpfdhnjhpbjgaaDoor
open Go.ChangeShapes Go.WideShapes Go.ChangeAt Go.RowKit

theorem ownE : ownKnob Tryd.prog.godebug = none := by kernel_rfl
theorem laidOutE : laidOutB Tryd.prog = true := by kernel_rfl
/-- The table's name, as the row lists it. -/
def nameL : String := (Rows.eventBackRow.laid.map (·.1)).getD 1 ""
theorem gL : Tryd.prog.globalNamed nameL = some 0 := by kernel_rfl
theorem tL : (Tryd.prog.globals[0]?).map (·.type) = some 125 := by kernel_rfl
theorem cells124 : Tryd.prog.cellsOf 124 = 2 := by kernel_rfl
theorem cells125 : Tryd.prog.cellsOf 125 = 8 := by kernel_rfl
theorem cells3E : Tryd.prog.cellsOf 3 = 1 := by kernel_rfl
theorem cells9E : Tryd.prog.cellsOf 9 = 1 := by kernel_rfl
theorem cells70 : Tryd.prog.cellsOf 70 = 5 := by kernel_rfl
/-- A row of the table. -/
theorem lay_elem {H : Type} {enc : TypeId × Value → H} {W : World} {base : Nat} {sp : Nat → Bool} {held : Bool} {m : Nat} {c : List Value} {x : DataW H × List MemPlace} (h : DataW.trod enc Tryd.prog W base sp held m 124 c = some x) (l : List UInt8) (z : Int) (hx : x.1 = .agg [.lit (.string l), .lit (.int .i64 z)]) : c = [.string ⟨l.toArray⟩, .int .i64 z] := by
  obtain ⟨y0, y1, n, rfl, hl, h0, h1⟩ := trod_struct2 Tryd.underlying124 h
  rw [cells124] at hl
  simp only [cells3E, cells9E] at h0 h1
  match c, hl with
  | [c0, c1], _ =>
    obtain ⟨s, e0, rfl, _⟩ := DataW.trod_string Tryd.underlying9 h0
    obtain ⟨k, e1, rfl, _⟩ := DataW.trod_int Tryd.underlying3 h1
    simp at e0 e1 hx
    rw [e0, e1, hx.2, ← hx.1, Lib.mk_data]
set_option maxRecDepth 100000 in
/-- The table of kinds, out of the row's condition and the world's shape. -/
theorem tabL_of {W : World} (hsh : W.ShapedOpen Tryd.prog) (h : laidMet Tryd.prog Rows.eventBackRow.laid W) : TabL W := by
  obtain ⟨ps, ⟨_, _, _, _, _, _, _, _, _, _, ⟨g, t, cs, fuel, p, q, hg, ht, hv, hd, _, _⟩, _⟩, _, _⟩ := h
  obtain rfl : 0 = g := Option.some.inj (gL.symm.trans hg)
  obtain rfl : 125 = t := Option.some.inj (tL.symm.trans ht)
  obtain ⟨ds, hds, _, _⟩ := hsh.1 0 #[.string ⟨#[]⟩, .int .i64 0, .string ⟨#[]⟩, .int .i64 0, .string ⟨#[]⟩, .int .i64 0, .string ⟨#[]⟩, .int .i64 0] 125 (of_decide_eq_true (by kernel_rfl)) (by kernel_rfl)
  have hcs : ds = cs := by
    have hv' : W.var? Tryd.prog nameL = some cs := hv
    simp only [World.var?, gL, Option.bind_some, hds] at hv'
    exact Option.some.inj hv'
  subst hcs
  show W.heap[0]? = some (.cells layRow 125 (0, 0))
  rw [hds]
  obtain ⟨xs, m, _, ex, hl, hlen, hel⟩ := DataW.trod_array Tryd.underlying125 hd
  rw [cells125] at hl
  have ed := (Prod.mk.inj ex).1
  have e1 : xs.map (·.1) = [.agg [.lit (.string []), .lit (.int .i64 0)], .agg [.lit (.string [112, 117, 116]), .lit (.int .i64 5)], .agg [.lit (.string [100, 101, 108]), .lit (.int .i64 4)], .agg [.lit (.string [103, 111, 110, 101]), .lit (.int .i64 2)]] := (DataW.agg.inj ed).symm
  match xs, hlen, e1, hel with
  | [y0, y1, y2, y3], _, e1, hel =>
    simp only [List.map_cons, List.map_nil, List.cons.injEq, and_true] at e1
    obtain ⟨a0, a1, a2, a3⟩ := e1
    have b0 := lay_elem (x := y0) (by simpa [cells124] using hel 0 (by decide)) _ _ a0
    have b1 := lay_elem (x := y1) (by simpa [cells124] using hel 1 (by decide)) _ _ a1
    have b2 := lay_elem (x := y2) (by simpa [cells124] using hel 2 (by decide)) _ _ a2
    have b3 := lay_elem (x := y3) (by simpa [cells124] using hel 3 (by decide)) _ _ a3
    have hall : ds.toList = [.string ⟨#[]⟩, .int .i64 0, .string ⟨#[112, 117, 116]⟩, .int .i64 5, .string ⟨#[100, 101, 108]⟩, .int .i64 4, .string ⟨#[103, 111, 110, 101]⟩, .int .i64 2] := by
      match hL : ds.toList, hl with
      | [c0, c1, c2, c3, c4, c5, c6, c7], _ =>
        rw [hL] at b0 b1 b2 b3
        simp at b0 b1 b2 b3
        simp [b0, b1, b2, b3]
    have hrow : ds = layRow := by
      apply Array.ext'
      rw [hall]; rfl
    rw [hrow]
/-- The library's own number, out of the world's shape. -/
theorem tabM_of {W : World} (hsh : W.ShapedOpen Tryd.prog) : TabM W := laysSplit.s1_3 W hsh
set_option maxRecDepth 100000 in
/-- An event that came in: a number and four texts. -/
theorem event_of {H : Type} {enc : TypeId × Value → H} {W : World} {base : Nat} {sp : Nat → Bool} {held : Bool} {v : Value} {d : DataW H} {p : List MemPlace} {r : Reach} {b0 : Nat} (hv : Value.okWide Tryd.prog W r b0 70 v) (h : DataW.Trod enc Tryd.prog W base sp held 70 v d p) :
    ∃ (k : Int) (a b c x : ByteArray), v = .agg #[.int .i64 k, .string a, .string b, .string c, .string x] := by
  obtain ⟨cs, rfl, hsz⟩ := okWide_struct Tryd.underlying70 hv
  obtain ⟨fuel, hf⟩ := h
  obtain ⟨xs, n, _, _, hl, hlen, hfs⟩ := DataW.trod_struct Tryd.underlying70 hf
  have hl' : cs.toList.length = 5 := by rw [Array.length_toList, hsz, cells70]
  have hcs : (Value.agg cs).cells.toList = cs.toList := rfl
  rw [hcs] at hfs
  match xs, hlen, hfs with
  | [y0, y1, y2, y3, y4], _, hfs =>
    match hL : cs.toList, hl' with
    | [c0, c1, c2, c3, c4], _ =>
      have g0 := hfs 0 _ rfl
      have g1 := hfs 1 _ rfl
      have g2 := hfs 2 _ rfl
      have g3 := hfs 3 _ rfl
      have g4 := hfs 4 _ rfl
      simp only [hL] at g0 g1 g2 g3 g4
      obtain ⟨k, e0, _⟩ := DataW.trod_int Tryd.underlying3 g0
      obtain ⟨a, e1, _⟩ := DataW.trod_string Tryd.underlying9 g1
      obtain ⟨b, e2, _⟩ := DataW.trod_string Tryd.underlying9 g2
      obtain ⟨c, e3, _⟩ := DataW.trod_string Tryd.underlying9 g3
      obtain ⟨x, e4, _⟩ := DataW.trod_string Tryd.underlying9 g4
      simp [cells3E, cells9E] at e0 e1 e2 e3 e4
      refine ⟨k, a, b, c, x, ?_⟩
      congr 1
      apply Array.ext'
      rw [hL, e0, e1, e2, e3, e4]
set_option maxRecDepth 100000 in
/-- The library's wrap of a row that lists variables, with the world's shape handed on besides. -/
theorem returns_listed {H : Type} {enc : TypeId × Value → H} {os : Os} {f : FuncId} {fn : Func} {s : ChangeSpec} {L : List (String × DataW Unit)}
    (started : os.Started) (noInit : Tryd.checked.prog.inits.idxOf? f = none) (hfn : Tryd.checked.prog.funcs[f]? = some fn)
    (witness : ∃ (w : World) (tape : Tape) (i : Input), w.os = os ∧ (w.forCall tape i).Shaped Tryd.checked.prog ∧ i.vars = [] ∧ Input.okWide Tryd.checked.prog (w.forCall tape i) .any w.heap.size f i ∧
      ((s.pre enc Tryd.checked.prog fn [] false (w.forCall tape i).memory i.args ∧ laidMetH Tryd.prog L (w.forCall tape i).memory) ∧ sizedMet enc Tryd.checked.prog fn (OpenSpec.ofChange s) false (w.forCall tape i).memory i.args) ∧ ({} : Assume).holds Tryd.checked.prog (lone (Frame.enter Tryd.checked.prog f i.args .normal) [] (w.forCall tape i)))
    (walk : ∀ (W : World) (base : Nat) (args : Array Value) (ds gs : List (DataW H)) (before : List MemPlace),
      (∀ (j : Nat) t v, fn.params[j]? = some t → args[j]? = some v → Value.okWide Tryd.prog W .any base t v) →
      DataW.Whole enc Tryd.checked.prog fn.params.toList s.vars false W args.toList ds gs before → W.ShapedOpen Tryd.prog → laidMetH Tryd.prog L W →
      Calls Tryd.prog f args W fun e W' => ∃ v, e = .returned v ∧ s.post enc Tryd.checked.prog fn false true false false W args v W') :
    ReturnsInHanded {} Tryd.checked os f .any (fun w args => (s.pre enc Tryd.prog fn [] false w args ∧ laidMetH Tryd.prog L w) ∧ sizedMet enc Tryd.prog fn (OpenSpec.ofChange s) false w args) (s.post enc Tryd.prog fn false true false false) := by
  refine returnsInHanded_of_calls ownE started noInit witness ?_
  intro w tape i _ hsh _ hok hpre _
  obtain ⟨_, _, _, fn', hfn', _, _, _, _, hval⟩ := hok
  obtain rfl : fn' = fn := Option.some.inj (hfn'.symm.trans hfn)
  obtain ⟨⟨⟨ds, gs, before, hw, _⟩, hx⟩, _⟩ := hpre
  refine (walk (w.forCall tape i) w.heap.size i.args ds gs before hval (DataW.Whole.of_heap (w' := w.forCall tape i) (by rfl) hw) hsh (hx.of_heap (by rfl))).mono fun e W' ⟨v, he, hp⟩ => ?_
  subst he
  exact ChangeSpec.post_blind hp
end Go.Proofs.YtmpfdhnjhpbjgaaDoor
