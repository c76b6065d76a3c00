/- Texts of this proof, one behind the other. -/
import Derived.Test.YtkbaalenbpgheaaGreatDoorRows
import Derived.Test.YtkbaalenbpgheaaGreatDoorCards
import Derived.Test.YtkbaalenbpgheaaGreatDoorTie
import Derived.ProofKit
import Derived.LaidMore
import Derived.OpenShut
import Derived.Lay
import Derived.Stop.Joined
import Derived.Stop.LaidErr
import Derived.LaidHandle
import Derived.Lib.LaidTab
import Derived.HandedShaped
import Derived.SevenTiedAt
import Derived.Deep.DeepCutAuto
import Derived.Shelf.Abstract
import Derived.Test.YtkbaalenbpgheaaGreatDoorPart28
/- What the rows' conditions give the walks: the table of the sum, the table of kinds, the library's own number and its type of errors; and the wrap that hands the world's shape on. -/
namespace Go.Proofs.YtkbaalenbpgheaaGreatDoor
open Go.ChangeShapes Go.WideShapes Go.ChangeAt Go.RowKit

/-- The variables' names, as the rows list them. -/
def nameA : String := (Rows.sourceForgetsRow.laid.map (·.1)).getD 0 ""
def nameH : String := (Rows.sourceForgetsRow.laid.map (·.1)).getD 1 ""
def nameK : String := (Rows.sourceForgetsRow.laid.map (·.1)).getD 2 ""
def nameL : String := (Rows.sourceForgetsRow.laid.map (·.1)).getD 3 ""
def nameF : String := (Rows.sourceForgetsRow.laid.map (·.1)).getD 4 ""
def typeH : String := match Rows.sourceForgetsRow.laid with
  | _ :: (_, .iface n _) :: _ => n
  | _ => ""
theorem gL : Tryz.prog.globalNamed nameL = some 1 := by kernel_rfl
theorem tL : (Tryz.prog.globals[1]?).map (·.type) = some 169 := by kernel_rfl
theorem cellsLy : Tryz.prog.cellsOf 168 = 2 := by kernel_rfl
theorem cellsLs : Tryz.prog.cellsOf 169 = 8 := by kernel_rfl
theorem gK : Tryz.prog.globalNamed nameK = some 3 := by kernel_rfl
theorem tK : (Tryz.prog.globals[3]?).map (·.type) = some 272 := by kernel_rfl
theorem c217 : Tryz.prog.cellsOf 190 = 1 := by kernel_rfl
theorem c258 : Tryz.prog.cellsOf 272 = 64 := by kernel_rfl
theorem etH : Tryz.prog.globalNamed nameH = some 0 := by kernel_rfl
theorem rtH : (Tryz.prog.cutTypes.find? (·.1 == typeH)).map (·.2) = some 199 := by kernel_rfl
theorem oneRowH : ((List.range 310).filter fun t => Tryz.prog.rowNamed t [101, 114, 114, 111, 114]) = [32] := by kernel_rfl
theorem typesSizeH : Tryz.prog.types.size = 310 := by kernel_rfl
/-- A row of the table. -/
theorem lay_elem {H : Type} {enc : TypeId × Value → H} {W : World} {base : Nat} {sp : Nat → Bool} {held : Bool} {m : Nat} {c : List Value} {x : DataW H × List MemPlace} (h : DataW.trod enc Tryz.prog W base sp held m 168 c = some x) (l : List UInt8) (z : Int) (hx : x.1 = .agg [.lit (.string l), .lit (.int .i64 z)]) : c = [.string ⟨l.toArray⟩, .int .i64 z] := by
  obtain ⟨y0, y1, n, rfl, hl, h0, h1⟩ := trod_struct2 Tryz.underlying168 h
  rw [cellsLy] at hl
  simp only [cells3, cells9] at h0 h1
  match c, hl with
  | [c0, c1], _ =>
    obtain ⟨s, e0, rfl, _⟩ := DataW.trod_string Tryz.underlying9 h0
    obtain ⟨k, e1, rfl, _⟩ := DataW.trod_int Tryz.underlying3 h1
    simp at e0 e1 hx
    rw [e0, e1, hx.2, ← hx.1, Lib.mk_data]
set_option maxRecDepth 100000 in
/-- The table of kinds, out of the row's condition and the world's shape. -/
theorem tabL_of {W : World} (hsh : W.ShapedOpen Tryz.prog) {l : List (String × DataW Unit)} (h : laidMet Tryz.prog ((nameL, Rows.laid_oubliette_event_layouts) :: l) W) : TabL W := by
  obtain ⟨ps, ⟨g, t, cs, fuel, p, q, hg, ht, hv, hd, _, _⟩, _, _⟩ := h
  obtain rfl : 1 = g := Option.some.inj (gL.symm.trans hg)
  obtain rfl : 169 = t := Option.some.inj (tL.symm.trans ht)
  obtain ⟨ds, hds, _, _⟩ := hsh.1 1 #[.string ⟨#[]⟩, .int .i64 0, .string ⟨#[]⟩, .int .i64 0, .string ⟨#[]⟩, .int .i64 0, .string ⟨#[]⟩, .int .i64 0] 169 (of_decide_eq_true (by kernel_rfl)) (by kernel_rfl)
  have hcs : ds = cs := by
    have hv' : W.var? Tryz.prog nameL = some cs := hv
    simp only [World.var?, gL, Option.bind_some, hds] at hv'
    exact Option.some.inj hv'
  subst hcs
  show W.heap[1]? = some (.cells layRow 169 (0, 0))
  rw [hds]
  obtain ⟨xs, m, _, ex, hl, hlen, hel⟩ := DataW.trod_array Tryz.underlying169 hd
  rw [cellsLs] at hl
  have ed := (Prod.mk.inj ex).1
  have e1 : xs.map (·.1) = [.agg [.lit (.string []), .lit (.int .i64 0)], .agg [.lit (.string [112, 117, 116]), .lit (.int .i64 5)], .agg [.lit (.string [100, 101, 108]), .lit (.int .i64 4)], .agg [.lit (.string [103, 111, 110, 101]), .lit (.int .i64 2)]] := (DataW.agg.inj ed).symm
  match xs, hlen, e1, hel with
  | [y0, y1, y2, y3], _, e1, hel =>
    simp only [List.map_cons, List.map_nil, List.cons.injEq, and_true] at e1
    obtain ⟨a0, a1, a2, a3⟩ := e1
    have b0 := lay_elem (x := y0) (by simpa [cellsLy] using hel 0 (by decide)) _ _ a0
    have b1 := lay_elem (x := y1) (by simpa [cellsLy] using hel 1 (by decide)) _ _ a1
    have b2 := lay_elem (x := y2) (by simpa [cellsLy] using hel 2 (by decide)) _ _ a2
    have b3 := lay_elem (x := y3) (by simpa [cellsLy] using hel 3 (by decide)) _ _ a3
    have hall : ds.toList = [.string ⟨#[]⟩, .int .i64 0, .string ⟨#[112, 117, 116]⟩, .int .i64 5, .string ⟨#[100, 101, 108]⟩, .int .i64 4, .string ⟨#[103, 111, 110, 101]⟩, .int .i64 2] := by
      match hL : ds.toList, hl with
      | [c0, c1, c2, c3, c4, c5, c6, c7], _ =>
        rw [hL] at b0 b1 b2 b3
        simp at b0 b1 b2 b3
        simp [b0, b1, b2, b3]
    have hrow : ds = layRow := by
      apply Array.ext'
      rw [hall]; rfl
    rw [hrow]
/-- The library's own number, out of the world's shape. -/
theorem tabM_of {W : World} (hsh : W.ShapedOpen Tryz.prog) : TabM W := laysSplitN.s1_3 W hsh
/-- The numbers of the turns as the row lists them. -/
def kInts : List Int := kNat.map fun (n : Nat) => (n : Int)
theorem kInts_ok : (List.range 64).all (fun i => decide (N (wd kTab i) = kInts.getD i 0)) = true := by decide +kernel
theorem tabK_of {W : World} {l : List (String × DataW Unit)} (h : laidMet Tryz.prog ((nameK, Rows.laid_oubliette_sum_roundNumbers) :: l) W) : TabK W := by
  have hK := Lib.tabIs_of_head (k := .u32) (zs := kInts) gK tK Tryz.underlying272 Tryz.underlying190 c217 c258 h
  intro i hi
  rw [hK.cell gK i (by show i < 64; exact hi)]
  have h4 := List.all_eq_true.1 kInts_ok i (by simp; omega)
  rw [← of_decide_eq_true h4]
theorem tabE_ofH {W : World} (h : handlesMet Tryz.prog [(nameH, Rows.laid_errors_errorType)] W) : TabE W := by
  obtain ⟨name, u, ty, e1, e2, e3, e4, e5⟩ := h _ (List.mem_singleton.2 rfl)
  have en : name = [101, 114, 114, 111, 114] := (Option.some.inj e1).symm
  subst en
  obtain rfl := Option.some.inj (rtH.symm.trans e2)
  have hm : ty ∈ (List.range 310).filter fun t => Tryz.prog.rowNamed t [101, 114, 114, 111, 114] := List.mem_filter.2 ⟨List.mem_range.2 (by rw [← typesSizeH]; exact e3), e4⟩
  rw [oneRowH] at hm
  obtain rfl := List.mem_singleton.1 hm
  have hh : typeHandle Tryz.prog 32 = .pointer (some ⟨6, 32, none⟩) := by kernel_rfl
  rw [hh] at e5
  unfold TabE
  simpa using World.var?_cell etH e5 0
/-- The listed data, less the handle. -/
def dataL : List (String × DataW Unit) := [(nameA, Rows.laid_unicode_utf8_acceptRanges), (nameK, Rows.laid_oubliette_sum_roundNumbers), (nameL, Rows.laid_oubliette_event_layouts), (nameF, Rows.laid_unicode_utf8_first)]
/-- What the rows' condition and the world's shape give the walks. -/
theorem tabs_of {W : World} (hsh : W.ShapedOpen Tryz.prog) (h : laidMetH Tryz.prog Rows.sourceForgetsRow.laid W) : Tabs W := by
  have h' : laidMet Tryz.prog dataL W ∧ handlesMet Tryz.prog [(nameH, Rows.laid_errors_errorType)] W := h
  exact ⟨tabK_of (laidMet.tail h'.1), tabL_of hsh (laidMet.tail (laidMet.tail h'.1)), tabM_of hsh, tabE_ofH h'.2⟩
/-- A list of variables, laid by the function over whatever world. -/
theorem laidMet_on {P : Program} {w0 w' : World} {l : List (String × DataW Unit)} (hh : w'.heap = (w0.layVars P l).heap) (hf : w0.layFits P l [] = true) (hi : w0.layIfaces P l w' = true) : laidMet P l w' := by
  have e1 : (l.filter fun x => (l.map (·.1)).contains x.1) = l := List.filter_eq_self.2 fun x hx => List.contains_iff_mem.2 (List.mem_map.2 ⟨x, hx, rfl⟩)
  have e2 : (l.filter fun x => !(l.map (·.1)).contains x.1) = [] := List.filter_eq_nil_iff.2 fun x hx => by rw [List.contains_iff_mem.2 (List.mem_map.2 ⟨x, hx, rfl⟩)]; simp
  exact laidMet_layVars (w0 := w0) (l.map (·.1)) [] (by rw [e1]; exact hh) (by rw [e1]; exact hf) (by rw [e1]; exact hi) (by rw [e2]; exact LaidIn.none)
set_option maxRecDepth 100000 in
/-- The library's wrap of a row that lists variables, with the world's shape handed on besides. -/
theorem returns_listed {H : Type} {enc : TypeId × Value → H} {os : Os} {f : FuncId} {fn : Func} {s : ChangeSpec} {L : List (String × DataW Unit)}
    (started : os.Started) (noInit : Tryz.checked.prog.inits.idxOf? f = none) (hfn : Tryz.checked.prog.funcs[f]? = some fn)
    (witness : ∃ (w : World) (tape : Tape) (i : Input), w.os = os ∧ (w.forCall tape i).Shaped Tryz.checked.prog ∧ i.vars = [] ∧ Input.okWide Tryz.checked.prog (w.forCall tape i) .any w.heap.size f i ∧
      ((s.pre enc Tryz.checked.prog fn [] false (w.forCall tape i).memory i.args ∧ laidMetH Tryz.prog L (w.forCall tape i).memory) ∧ sizedMet enc Tryz.checked.prog fn (OpenSpec.ofChange s) false (w.forCall tape i).memory i.args) ∧ ({} : Assume).holds Tryz.checked.prog (lone (Frame.enter Tryz.checked.prog f i.args .normal) [] (w.forCall tape i)))
    (walk : ∀ (W : World) (base : Nat) (args : Array Value) (ds gs : List (DataW H)) (before : List MemPlace),
      (∀ (j : Nat) t v, fn.params[j]? = some t → args[j]? = some v → Value.okWide Tryz.prog W .any base t v) →
      DataW.Whole enc Tryz.checked.prog fn.params.toList s.vars false W args.toList ds gs before → W.ShapedOpen Tryz.prog → laidMetH Tryz.prog L W →
      Calls Tryz.prog f args W fun e W' => ∃ v, e = .returned v ∧ s.post enc Tryz.checked.prog fn false true false false W args v W') :
    ReturnsInHanded {} Tryz.checked os f .any (fun w args => (s.pre enc Tryz.prog fn [] false w args ∧ laidMetH Tryz.prog L w) ∧ sizedMet enc Tryz.prog fn (OpenSpec.ofChange s) false w args) (s.post enc Tryz.prog fn false true false false) := by
  refine returnsInHanded_of_calls own started noInit witness ?_
  intro w tape i _ hsh _ hok hpre _
  obtain ⟨_, _, _, fn', hfn', _, _, _, _, hval⟩ := hok
  obtain rfl : fn' = fn := Option.some.inj (hfn'.symm.trans hfn)
  obtain ⟨⟨⟨ds, gs, before, hw, _⟩, hx⟩, _⟩ := hpre
  refine (walk (w.forCall tape i) w.heap.size i.args ds gs before hval (DataW.Whole.of_heap (w' := w.forCall tape i) (by rfl) hw) hsh (hx.of_heap (by rfl))).mono fun e W' ⟨v, he, hp⟩ => ?_
  subst he
  exact ChangeSpec.post_blind hp
end Go.Proofs.YtkbaalenbpgheaaGreatDoor

/- Records as bytes, as mathematics: what is written, what is cut, and that what is written is cut as it was. -/
namespace Go.Proofs.YtkbaalenbpgheaaGreatDoor
open Go.RowKit
/-- Bytes as a text. -/
def tx (l : List UInt8) : ByteArray := ⟨l.toArray⟩
theorem tx_size (l : List UInt8) : (tx l).size = l.length := rfl
theorem tx_list (l : List UInt8) : (tx l).data.toList = l := rfl
theorem tx_of (b : ByteArray) : tx b.data.toList = b := rfl
theorem tx_inj {l m : List UInt8} (h : tx l = tx m) : l = m := by
  have := congrArg (fun b : ByteArray => b.data.toList) h
  exact this
/-- What bytes tell, the greatest first. -/
def numL (l : List UInt8) : Nat := l.foldl (fun n c => n * 256 + c.toNat) 0
/-- A record that may be written. -/
structure RightR (r : Rec) : Prop where
  q1 : 1 ≤ r.q
  q2 : r.q ≤ 100
  s : nameB r.s.data.toList = true
  g : r.g ≤ 100
  p : r.p.size = 16
  d : r.d.size ≤ 416
def u8 (n : Nat) : UInt8 := UInt8.ofNat n
theorem u8_nat {n : Nat} (h : n < 256) : (u8 n).toNat = n := by
  unfold u8
  simp
  omega
def sizeL (n : Nat) : List UInt8 := [u8 (n / 256), u8 (n % 256)]
theorem num_one {n : Nat} (h : n < 256) : numL [u8 n] = n := by
  show 0 * 256 + (u8 n).toNat = n
  rw [u8_nat h]; omega
theorem num_two {n : Nat} (h : n < 65536) : numL (sizeL n) = n := by
  show (0 * 256 + (u8 (n / 256)).toNat) * 256 + (u8 (n % 256)).toNat = n
  rw [u8_nat (by omega), u8_nat (by omega)]; omega
/-- A record's bytes. -/
def wireL (r : Rec) : List UInt8 := (markR r).data.toList ++ (u8 r.q :: u8 r.s.size :: (r.s.data.toList ++ (u8 r.g :: (r.p.data.toList ++ (sizeL r.d.size ++ r.d.data.toList)))))
theorem wireL_len (r : Rec) : (wireL r).length = 37 - 16 + r.s.size + r.p.size + r.d.size := by
  have h1 : (markR r).data.toList.length = 16 := markR_size r
  have h2 : r.s.data.toList.length = r.s.size := rfl
  have h3 : r.p.data.toList.length = r.p.size := rfl
  have h4 : r.d.data.toList.length = r.d.size := rfl
  unfold wireL sizeL
  simp only [List.length_append, List.length_cons, List.length_nil, h1, h2, h3, h4]
  omega
/-- Bytes taken for a record's parts, as far as they reach. -/
def cutL (l : List UInt8) : Rec :=
  let l1 := l.drop 16
  let l2 := l1.drop 1
  let l3 := l2.drop 1
  let n := numL (l2.take 1)
  let l4 := l3.drop n
  let l5 := l4.drop 1
  let l6 := l5.drop 16
  let l7 := l6.drop 2
  ⟨numL (l1.take 1), tx (l3.take n), numL (l4.take 1), tx (l5.take 16), tx (l7.take (numL (l6.take 2)))⟩
theorem drop_app {a b : List UInt8} {n : Nat} (h : a.length = n) : (a ++ b).drop n = b := by
  rw [← h]; exact List.drop_left
theorem take_app {a b : List UInt8} {n : Nat} (h : a.length = n) : (a ++ b).take n = a := by
  rw [← h]; exact List.take_left
theorem nameB_len {s : ByteArray} (h : nameB s.data.toList = true) : s.size ≤ 10 := by
  unfold nameB at h
  simp at h
  have h2 : s.data.toList.length = s.size := rfl
  have h3 : s.data.size = s.size := rfl
  omega
theorem drop_one (x : UInt8) (l : List UInt8) : (x :: l).drop 1 = l := rfl
theorem take_one (x : UInt8) (l : List UInt8) : (x :: l).take 1 = [x] := rfl
/-- What is written is cut as it was, whatever stands behind it. -/
theorem cut_wire {r : Rec} (h : RightR r) (more : List UInt8) : cutL (wireL r ++ more) = r := by
  have hm : (markR r).data.toList.length = 16 := markR_size r
  have hs := nameB_len h.s
  have e0 : wireL r ++ more = (markR r).data.toList ++ (u8 r.q :: u8 r.s.size :: (r.s.data.toList ++ (u8 r.g :: (r.p.data.toList ++ (sizeL r.d.size ++ (r.d.data.toList ++ more)))))) := by
    unfold wireL
    simp only [List.append_assoc, List.cons_append]
  unfold cutL
  rw [e0]
  simp only
  rw [drop_app hm]
  simp only [drop_one, take_one]
  rw [num_one (n := r.q) (by have := h.q2; omega), num_one (n := r.s.size) (by omega)]
  rw [drop_app (a := r.s.data.toList) (n := r.s.size) rfl, take_app (a := r.s.data.toList) (n := r.s.size) rfl]
  simp only [drop_one, take_one]
  rw [num_one (n := r.g) (by have := h.g; omega)]
  rw [drop_app (a := r.p.data.toList) (n := 16) h.p, take_app (a := r.p.data.toList) (n := 16) h.p]
  rw [drop_app (a := sizeL r.d.size) (n := 2) rfl, take_app (a := sizeL r.d.size) (n := 2) rfl, num_two (by have := h.d; omega)]
  rw [take_app (a := r.d.data.toList) (n := r.d.size) rfl]
  rfl
/-- May it be written? -/
def rightI (q : Int) (s : ByteArray) (g : Int) (p d : ByteArray) : Bool := decide (1 ≤ q) && (decide (q ≤ 100) && (nameB s.data.toList && (decide (0 ≤ g) && (decide (g ≤ 100) && (decide (p.size = 16) && decide (d.size ≤ 416))))))
def rightRB (r : Rec) : Bool := rightI r.q r.s r.g r.p r.d
theorem rightRB_iff {r : Rec} : rightRB r = true ↔ RightR r := by
  unfold rightRB rightI
  simp only [Bool.and_eq_true, decide_eq_true_eq]
  constructor
  · rintro ⟨a, b, c, d, e, f, g⟩
    exact ⟨by omega, by omega, c, by omega, f, g⟩
  · rintro ⟨a, b, c, d, e, f⟩
    exact ⟨by omega, by omega, c, by omega, by omega, e, f⟩
/-- The record that bytes begin with, where they begin with one. -/
def firstL (l : List UInt8) : Option Rec := if rightRB (cutL l) = true ∧ wireL (cutL l) <+: l then some (cutL l) else none
theorem first_wire {r : Rec} (h : RightR r) (more : List UInt8) : firstL (wireL r ++ more) = some r := by
  unfold firstL
  rw [cut_wire h, if_pos ⟨rightRB_iff.2 h, List.prefix_append _ _⟩]
theorem first_some {l : List UInt8} {r : Rec} (h : firstL l = some r) : RightR r ∧ ∃ more, l = wireL r ++ more := by
  unfold firstL at h
  split at h
  · rename_i h1
    injection h with h
    rw [h] at h1
    obtain ⟨more, hm⟩ := h1.2
    exact ⟨rightRB_iff.1 h1.1, more, hm.symm⟩
  · cases h
theorem wireL_ne (r : Rec) : 0 < (wireL r).length := by rw [wireL_len]; omega
theorem first_nil : firstL [] = none := by
  cases h : firstL [] with
  | none => rfl
  | some r =>
    obtain ⟨_, more, hm⟩ := first_some h
    have := congrArg List.length hm
    have := wireL_ne r
    rw [List.length_append, List.length_nil] at *
    omega
/-- Records, one behind the other. -/
def wiresL (rs : List Rec) : List UInt8 := rs.flatMap wireL
theorem wiresL_snoc (rs : List Rec) (r : Rec) : wiresL (rs ++ [r]) = wiresL rs ++ wireL r := by simp [wiresL]
theorem wiresL_cons (r : Rec) (rs : List Rec) : wiresL (r :: rs) = wireL r ++ wiresL rs := by simp [wiresL]
/-- Just these records stand there wholly, one behind the other. -/
structure AllAt (l : List UInt8) (rs : List Rec) : Prop where
  right : ∀ r ∈ rs, RightR r
  rest : ∃ tl, l = wiresL rs ++ tl ∧ firstL tl = none
theorem AllAt.eq : ∀ {l : List UInt8} {rs rs' : List Rec}, AllAt l rs → AllAt l rs' → rs = rs'
  | l, [], [], _, _ => rfl
  | l, [], r :: rs, h, h' => by
    obtain ⟨tl, e, hf⟩ := h.rest
    obtain ⟨tl', e', _⟩ := h'.rest
    have e1 : l = tl := e
    rw [← e1, e', wiresL_cons, List.append_assoc, first_wire (h'.right r List.mem_cons_self)] at hf
    cases hf
  | l, r :: rs, [], h, h' => by
    obtain ⟨tl, e, hf⟩ := h'.rest
    obtain ⟨tl', e', _⟩ := h.rest
    have e1 : l = tl := e
    rw [← e1, e', wiresL_cons, List.append_assoc, first_wire (h.right r List.mem_cons_self)] at hf
    cases hf
  | l, r :: rs, r' :: rs', h, h' => by
    obtain ⟨tl, e, hf⟩ := h.rest
    obtain ⟨tl', e', hf'⟩ := h'.rest
    have h1 := first_wire (h.right r List.mem_cons_self) (wiresL rs ++ tl)
    have h2 := first_wire (h'.right r' List.mem_cons_self) (wiresL rs' ++ tl')
    rw [wiresL_cons, List.append_assoc] at e e'
    have h3 : r' = r := by
      rw [← e, e', h2] at h1
      exact Option.some.inj h1
    subst h3
    rw [e] at e'
    have e2 := List.append_cancel_left e'
    have := AllAt.eq (l := wiresL rs ++ tl) ⟨fun x hx => h.right x (List.mem_cons_of_mem _ hx), tl, rfl, hf⟩ ⟨fun x hx => h'.right x (List.mem_cons_of_mem _ hx), tl', e2, hf'⟩
    rw [this]
end Go.Proofs.YtkbaalenbpgheaaGreatDoor

/- Bytes taken for a record's parts: the program's cut. -/
namespace Go.Proofs.YtkbaalenbpgheaaGreatDoor
open Go.RowKit
attribute [local go_sem ↓] Go.wp_at_zero Go.wp_at_succ
theorem tx_take (l : List UInt8) (k : Nat) : (tx l).extract 0 k = tx (l.take k) := by
  apply ByteArray.ext
  rw [ByteArray.data_extract]
  apply Array.toList_inj.1
  rw [Array.toList_extract]
  show List.extract l 0 k = l.take k
  simp [List.extract]
theorem tx_drop (l : List UInt8) (k : Nat) : (tx l).extract k l.length = tx (l.drop k) := by
  apply ByteArray.ext
  rw [ByteArray.data_extract]
  apply Array.toList_inj.1
  rw [Array.toList_extract]
  show List.extract l k l.length = l.drop k
  simp only [List.extract]
  rw [List.take_of_length_le (by rw [List.length_drop]; exact Nat.le_refl _)]
set_option maxRecDepth 100000 in
set_option maxHeartbeats 1000000 in
theorem take_any (b n : Nat) (l : List UInt8) (w : World) (hb : HasR w b 9 #[.string (tx l)]) :
    Calls Tryz.prog 159 #[.int .i64 (n : Int), .pointer (some ⟨b, 0, none⟩)] w fun x w' => x = .returned (.string (tx (l.take n))) ∧ w' = w.setCell ⟨b, 0, none⟩ (.string (tx (l.drop n))) := by
  have c0 : w.cell? ⟨b, 0, none⟩ = some (.string (tx l)) := hb.cell 0
  have f0 : w.frozen? ⟨b, 0, none⟩ = false := hb.free 0
  have hsz : (tx l).size = l.length := rfl
  have ht := tx_take l
  have hd := tx_drop l
  by_cases h : n ≤ l.length
  · have h1 : (n : Int) ≤ (l.length : Int) := by omega
    have hmin : min (n : Int) (l.length : Int) = (n : Int) := by omega
    have htl : (tx (l.take n)).size = n := by rw [tx_size, List.length_take]; omega
    clear hb
    go_enter Tryz.func159, Tryz.ntmps159
    go_wp2
    go_ret
    exact ⟨rfl, rfl⟩
  · have h1 : ¬ (n : Int) ≤ (l.length : Int) := by omega
    have hmin : min (n : Int) (l.length : Int) = (l.length : Int) := by omega
    have htl : (tx (l.take l.length)).size = l.length := by rw [tx_size, List.length_take]; omega
    have e1 : l.take n = l.take l.length := by rw [List.take_of_length_le (by omega), List.take_length]
    have e2 : l.drop n = l.drop l.length := by rw [List.drop_eq_nil_of_le (by omega), List.drop_length]
    rw [e1, e2]
    clear hb e1 e2
    go_enter Tryz.func159, Tryz.ntmps159
    go_wp2
    go_ret
    exact ⟨rfl, rfl⟩
theorem byte_lt (a : UInt8) : a.toNat < 256 := a.toNat_lt
theorem or_zero (a : UInt8) : bits .or .i64 0 (a.toNat : Int) = (a.toNat : Int) := by
  have := byte_lt a
  show IntKind.i64.wrap ((BitVec.ofInt 64 0 ||| BitVec.ofInt 64 (a.toNat : Int)).toNat : Int) = _
  rw [BitVec.ofInt_natCast, BitVec.toNat_or, BitVec.toNat_ofNat, Nat.mod_eq_of_lt (by omega)]
  rw [IntKind.wrap_i64]
  simp
  omega
theorem or_byte (a b : UInt8) : bits .or .i64 ((a.toNat : Int) * 256) (b.toNat : Int) = ((a.toNat * 256 + b.toNat : Nat) : Int) := by
  have h1 := byte_lt a
  have h2 := byte_lt b
  show IntKind.i64.wrap ((BitVec.ofInt 64 ((a.toNat : Int) * 256) ||| BitVec.ofInt 64 (b.toNat : Int)).toNat : Int) = _
  rw [show ((a.toNat : Int) * 256) = ((a.toNat * 256 : Nat) : Int) by omega]
  rw [BitVec.ofInt_natCast, BitVec.ofInt_natCast, BitVec.toNat_or, BitVec.toNat_ofNat, BitVec.toNat_ofNat, Nat.mod_eq_of_lt (by omega), Nat.mod_eq_of_lt (by omega)]
  have h3 : a.toNat * 256 ||| b.toNat = a.toNat * 256 + b.toNat := by
    have := Nat.shiftLeft_add_eq_or_of_lt (b := b.toNat) (i := 8) (by omega) a.toNat
    rw [Nat.shiftLeft_eq] at this
    exact this.symm
  rw [h3, IntKind.wrap_i64]
  omega
theorem wrap_byte (a : UInt8) : wrap64 (a.toNat : Int) = (a.toNat : Int) := by
  have := byte_lt a
  unfold wrap64
  omega
set_option maxRecDepth 100000 in
set_option maxHeartbeats 1000000 in
theorem number_none (w : World) : Calls Tryz.prog 160 #[.string (tx [])] w fun x w' => x = .returned (.int .i64 0) ∧ w' = w := by
  have hsz : (tx []).size = 0 := rfl
  go_enter Tryz.func160, Tryz.ntmps160
  go_wp2
  refine wp_loop_rounds 1 ?_
  rw [rounds_succ]
  go_wp2
  go_ret
  exact ⟨rfl, rfl⟩
set_option maxRecDepth 100000 in
set_option maxHeartbeats 1000000 in
theorem number_one (a : UInt8) (w : World) : Calls Tryz.prog 160 #[.string (tx [a])] w fun x w' => x = .returned (.int .i64 (a.toNat : Int)) ∧ w' = w := by
  have hsz : (tx [a]).size = 1 := rfl
  go_enter Tryz.func160, Tryz.ntmps160
  go_wp2
  refine wp_loop_rounds 2 ?_
  rw [rounds_succ]
  go_wp2
  rw [rounds_succ]
  go_wp2
  go_ret
  refine ⟨ret_val ?_, rfl⟩
  show Value.int .i64 (bits .or .i64 0 (wrap64 (a.toNat : Int))) = _
  rw [wrap_byte, or_zero]
set_option maxRecDepth 100000 in
set_option maxHeartbeats 1000000 in
theorem number_two (a b : UInt8) (w : World) : Calls Tryz.prog 160 #[.string (tx [a, b])] w fun x w' => x = .returned (.int .i64 ((a.toNat * 256 + b.toNat : Nat) : Int)) ∧ w' = w := by
  have hsz : (tx [a, b]).size = 2 := rfl
  go_enter Tryz.func160, Tryz.ntmps160
  go_wp2
  refine wp_loop_rounds 3 ?_
  rw [rounds_succ]
  go_wp2
  rw [rounds_succ]
  go_wp2
  rw [rounds_succ]
  go_wp2
  go_ret
  refine ⟨ret_val ?_, rfl⟩
  have h1 := byte_lt a
  show Value.int .i64 (bits .or .i64 (wrap64 (bits .or .i64 0 (wrap64 (a.toNat : Int)) * 256)) (wrap64 (b.toNat : Int))) = _
  have h2 : wrap64 ((a.toNat : Int) * 256) = (a.toNat : Int) * 256 := by unfold wrap64; omega
  rw [wrap_byte, wrap_byte, or_zero, h2, or_byte]
theorem number_any (l : List UInt8) (w : World) (h : l.length ≤ 2) : Calls Tryz.prog 160 #[.string (tx l)] w fun x w' => x = .returned (.int .i64 ((numL l : Nat) : Int)) ∧ w' = w := by
  match l, h with
  | [], _ => exact number_none w
  | [a], _ =>
    have e : numL [a] = a.toNat := by show 0 * 256 + a.toNat = a.toNat; omega
    rw [e]
    exact number_one a w
  | [a, b], _ =>
    have e : numL [a, b] = a.toNat * 256 + b.toNat := by show (0 * 256 + a.toNat) * 256 + b.toNat = _; omega
    rw [e]
    exact number_two a b w
theorem HasR.apart9 {w : World} {b b' : Nat} {t t' : TypeId} {cs cs' : Array Value} (h : HasR w b t cs) (h' : HasR w b' t' cs') (hne : t ≠ t') : b ≠ b' := by
  intro e
  subst e
  unfold HasR at h h'
  rw [h] at h'
  injection h' with h1
  injection h1 with _ h2
  exact hne h2
/-- While the parts are taken. -/
structure Cu (w0 w : World) (b0 b1 b2 : Nat) (l : List UInt8) (cs : Array Value) : Prop where
  box : HasR w b0 9 #[.string (tx l)]
  res : HasR w b1 30 #[.int .i64 0, .string ⟨#[]⟩, .int .i64 0, .string ⟨#[]⟩, .string ⟨#[]⟩]
  rec_ : HasR w b2 30 cs
  ne : b1 ≠ b2
  low0 : w0.heap.size ≤ b0
  low2 : w0.heap.size ≤ b2
  bel : Below w0.heap.size w0 w
theorem Cu.take {w0 w : World} {b0 b1 b2 : Nat} {l : List UInt8} {cs : Array Value} (h : Cu w0 w b0 b1 b2 l cs) (n : Nat) :
    Calls Tryz.prog 159 #[.int .i64 (n : Int), .pointer (some ⟨b0, 0, none⟩)] w fun x w' => x = .returned (.string (tx (l.take n))) ∧ Cu w0 w' b0 b1 b2 (l.drop n) cs := by
  refine (take_any b0 n l w h.box).mono ?_
  rintro x w' ⟨rfl, rfl⟩
  have st : Stirred [b0] w (w.setCell ⟨b0, 0, none⟩ (.string (tx (l.drop n)))) := Stirred.setCell w ⟨b0, 0, none⟩ _
  refine ⟨rfl, h.box.set 0 _, h.res.turned st (fun hm => ?_), h.rec_.turned st (fun hm => ?_), h.ne, h.low0, h.low2, h.bel.trans (st.below h.bel.size (fun j hj => by simp at hj; rw [hj]; exact h.low0))⟩
  · simp at hm; exact HasR.apart9 h.res h.box (by decide) hm
  · simp at hm; exact HasR.apart9 h.rec_ h.box (by decide) hm
theorem Cu.set {w0 w : World} {b0 b1 b2 : Nat} {l : List UInt8} {cs : Array Value} (h : Cu w0 w b0 b1 b2 l cs) (i : Nat) (v : Value) : Cu w0 (w.setCell ⟨b2, i, none⟩ v) b0 b1 b2 l (cs.setIfInBounds i v) := by
  have st : Stirred [b2] w (w.setCell ⟨b2, i, none⟩ v) := Stirred.setCell w ⟨b2, i, none⟩ _
  refine ⟨h.box.turned st (fun hm => ?_), h.res.turned st (fun hm => ?_), h.rec_.set i v, h.ne, h.low0, h.low2, h.bel.trans (st.below h.bel.size (fun j hj => by simp at hj; rw [hj]; exact h.low2))⟩
  · simp at hm; exact HasR.apart9 h.box h.rec_ (by decide) hm
  · simp at hm; exact h.ne hm
theorem take_le (l : List UInt8) (n : Nat) : (l.take n).length ≤ n := List.length_take_le _ _
set_option maxRecDepth 100000 in
set_option maxHeartbeats 4000000 in
theorem cut_any (l : List UInt8) (w : World) : Calls Tryz.prog 133 #[.string (tx l)] w fun x w' => x = .returned (.agg #[.int .i64 (((cutL l).q : Nat) : Int), .string (cutL l).s, .int .i64 (((cutL l).g : Nat) : Int), .string (cutL l).p, .string (cutL l).d]) ∧ Below w.heap.size w w' := by
  have eg : ∀ args w, (callFunc 159 args).run Tryz.prog w = .ok (.enter 159 args) w := enters_of Tryz.func159 (by kernel_rfl) rfl
  have z := ((Below.refl _ w).alloc (Nat.le_refl _) (.cells #[.string (tx l)] 9)).alloc (by simp) (.cells #[.int .i64 0, .string ⟨#[]⟩, .int .i64 0, .string ⟨#[]⟩, .string ⟨#[]⟩] 30)
  have z2 := z.alloc (by simp; omega) (.cells #[.int .i64 0, .string ⟨#[]⟩, .int .i64 0, .string ⟨#[]⟩, .string ⟨#[]⟩] 30)
  have x0 := ((HasR.new w 9 #[.string (tx l)]).alloc (.cells #[.int .i64 0, .string ⟨#[]⟩, .int .i64 0, .string ⟨#[]⟩, .string ⟨#[]⟩] 30)).alloc (.cells #[.int .i64 0, .string ⟨#[]⟩, .int .i64 0, .string ⟨#[]⟩, .string ⟨#[]⟩] 30)
  have x1 := (HasR.new (w.alloc (.cells #[.string (tx l)] 9)) 30 #[.int .i64 0, .string ⟨#[]⟩, .int .i64 0, .string ⟨#[]⟩, .string ⟨#[]⟩]).alloc (.cells #[.int .i64 0, .string ⟨#[]⟩, .int .i64 0, .string ⟨#[]⟩, .string ⟨#[]⟩] 30)
  have x2 := HasR.new ((w.alloc (.cells #[.string (tx l)] 9)).alloc (.cells #[.int .i64 0, .string ⟨#[]⟩, .int .i64 0, .string ⟨#[]⟩, .string ⟨#[]⟩] 30)) 30 #[.int .i64 0, .string ⟨#[]⟩, .int .i64 0, .string ⟨#[]⟩, .string ⟨#[]⟩]
  rw [World.size_alloc] at x1
  rw [World.size_alloc, World.size_alloc] at x2
  have C0 := hide (Cu.mk (w0 := w) x0 x1 x2 (by omega) (Nat.le_refl _) (by omega) z2)
  clear z z2 x0 x1 x2
  unfold cutL
  simp only
  obtain ⟨l1, hl1⟩ : ∃ x, x = l.drop 16 := ⟨_, rfl⟩
  obtain ⟨l2, hl2⟩ : ∃ x, x = l1.drop 1 := ⟨_, rfl⟩
  obtain ⟨l3, hl3⟩ : ∃ x, x = l2.drop 1 := ⟨_, rfl⟩
  obtain ⟨n, hn⟩ : ∃ x, x = numL (l2.take 1) := ⟨_, rfl⟩
  obtain ⟨l4, hl4⟩ : ∃ x, x = l3.drop n := ⟨_, rfl⟩
  obtain ⟨l5, hl5⟩ : ∃ x, x = l4.drop 1 := ⟨_, rfl⟩
  obtain ⟨l6, hl6⟩ : ∃ x, x = l5.drop 16 := ⟨_, rfl⟩
  obtain ⟨l7, hl7⟩ : ∃ x, x = l6.drop 2 := ⟨_, rfl⟩
  obtain ⟨m, hm⟩ : ∃ x, x = numL (l6.take 2) := ⟨_, rfl⟩
  obtain ⟨q, hq⟩ : ∃ x, x = numL (l1.take 1) := ⟨_, rfl⟩
  obtain ⟨g, hg⟩ : ∃ x, x = numL (l4.take 1) := ⟨_, rfl⟩
  rw [← hl1, ← hl2, ← hl3, ← hn, ← hl4, ← hl5, ← hl6, ← hl7, ← hm, ← hq, ← hg]
  have HL1 := hide hl1
  have HL2 := hide hl2
  have HL3 := hide hl3
  have HN := hide hn
  have HL4 := hide hl4
  have HL5 := hide hl5
  have HL6 := hide hl6
  have HL7 := hide hl7
  have HM := hide hm
  have HQ := hide hq
  have HG := hide hg
  clear hl1 hl2 hl3 hn hl4 hl5 hl6 hl7 hm hq hg
  go_enter Tryz.func133, Tryz.ntmps133
  go_upto_region 3 with fail
  generalize ((w.alloc (.cells #[.string (tx l)] 9)).alloc (.cells #[.int .i64 0, .string ⟨#[]⟩, .int .i64 0, .string ⟨#[]⟩, .string ⟨#[]⟩] 30)).alloc (.cells #[.int .i64 0, .string ⟨#[]⟩, .int .i64 0, .string ⟨#[]⟩, .string ⟨#[]⟩] 30) = W0 at C0 ⊢
  have T0 := hide (C0.out.take 16)
  rw [← HL1.out, show ((16 : Nat) : Int) = 16 from rfl] at T0
  go_upto_region 4 with (go_at_fn 159; (with_reducible refine T0.out.mono ?_); rintro y w1 ⟨rfl, hC⟩; have C1 := hide hC; clear hC)
  have T1 := hide (C1.out.take 1)
  rw [← HL2.out, show ((1 : Nat) : Int) = 1 from rfl] at T1
  have N1 := hide (fun wx => number_any (l1.take 1) wx (Nat.le_trans (take_le _ _) (by omega)))
  rw [← HQ.out] at N1
  go_upto_region 5 with (first
    | (go_at_fn 159; (with_reducible refine T1.out.mono ?_); rintro y w2 ⟨rfl, hC⟩; have C2 := hide hC; have k2 : w2.cell? ⟨w.heap.size + 1 + 1, 0, none⟩ = some (.int .i64 0) := C2.out.rec_.cell 0; have f2 : w2.frozen? ⟨w.heap.size + 1 + 1, 0, none⟩ = false := C2.out.rec_.free 0; clear hC)
    | (go_at_call 160; (with_reducible refine (N1.out _).mono ?_); rintro y w3 ⟨rfl, hw3⟩; obtain rfl := hw3.symm))
  have C3 := hide (C2.out.set 0 (.int .i64 (q : Int)))
  clear T0 T1 N1 k2 f2 C1 C2
  generalize w2.setCell ⟨w.heap.size + 1 + 1, 0, none⟩ (.int .i64 (q : Int)) = w4 at C3 ⊢
  have T4 := hide (C3.out.take 1)
  rw [← HL3.out, show ((1 : Nat) : Int) = 1 from rfl] at T4
  have N4 := hide (fun wx => number_any (l2.take 1) wx (Nat.le_trans (take_le _ _) (by omega)))
  rw [← HN.out] at N4
  have T5 := hide (fun wx (h : Cu w wx w.heap.size (w.heap.size + 1) (w.heap.size + 1 + 1) l3 (#[.int .i64 0, .string ⟨#[]⟩, .int .i64 0, .string ⟨#[]⟩, .string ⟨#[]⟩].setIfInBounds 0 (.int .i64 (q : Int)))) => h.take n)
  rw [← HL4.out] at T5
  go_upto_region 6 with (first
    | (go_at_fn 159; (with_reducible refine T4.out.mono ?_); rintro y w5 ⟨rfl, hC⟩; have C5 := hide hC; have T5' := hide (T5.out _ hC); clear hC)
    | (go_at_call 160; (with_reducible refine (N4.out _).mono ?_); rintro y w6 ⟨rfl, hw6⟩; obtain rfl := hw6.symm)
    | (go_at_fn 159; (with_reducible refine T5'.out.mono ?_); rintro y w7 ⟨rfl, hC⟩; have C7 := hide hC; have k7 : w7.cell? ⟨w.heap.size + 1 + 1, 1, none⟩ = some (.string ⟨#[]⟩) := C7.out.rec_.cell 1; have f7 : w7.frozen? ⟨w.heap.size + 1 + 1, 1, none⟩ = false := C7.out.rec_.free 1; clear hC))
  have C8 := hide (C7.out.set 1 (.string (tx (l3.take n))))
  clear T4 N4 T5 T5' C5 C7 k7 f7 C3
  generalize w7.setCell ⟨w.heap.size + 1 + 1, 1, none⟩ (.string (tx (l3.take n))) = w8 at C8 ⊢
  have T8 := hide (C8.out.take 1)
  rw [← HL5.out, show ((1 : Nat) : Int) = 1 from rfl] at T8
  have N8 := hide (fun wx => number_any (l4.take 1) wx (Nat.le_trans (take_le _ _) (by omega)))
  rw [← HG.out] at N8
  go_upto_region 7 with (first
    | (go_at_fn 159; (with_reducible refine T8.out.mono ?_); rintro y w9 ⟨rfl, hC⟩; have C9 := hide hC; have k9 : w9.cell? ⟨w.heap.size + 1 + 1, 2, none⟩ = some (.int .i64 0) := C9.out.rec_.cell 2; have f9 : w9.frozen? ⟨w.heap.size + 1 + 1, 2, none⟩ = false := C9.out.rec_.free 2; clear hC)
    | (go_at_call 160; (with_reducible refine (N8.out _).mono ?_); rintro y w10 ⟨rfl, hw10⟩; obtain rfl := hw10.symm))
  have C10 := hide (C9.out.set 2 (.int .i64 (g : Int)))
  clear T8 N8 C9 k9 f9 C8
  generalize w9.setCell ⟨w.heap.size + 1 + 1, 2, none⟩ (.int .i64 (g : Int)) = w11 at C10 ⊢
  have T11 := hide (C10.out.take 16)
  rw [← HL6.out, show ((16 : Nat) : Int) = 16 from rfl] at T11
  go_upto_region 8 with (go_at_fn 159; (with_reducible refine T11.out.mono ?_); rintro y w12 ⟨rfl, hC⟩; have C12 := hide hC; have k12 : w12.cell? ⟨w.heap.size + 1 + 1, 3, none⟩ = some (.string ⟨#[]⟩) := C12.out.rec_.cell 3; have f12 : w12.frozen? ⟨w.heap.size + 1 + 1, 3, none⟩ = false := C12.out.rec_.free 3; clear hC)
  have C13 := hide (C12.out.set 3 (.string (tx (l5.take 16))))
  clear T11 C12 k12 f12 C10
  generalize w12.setCell ⟨w.heap.size + 1 + 1, 3, none⟩ (.string (tx (l5.take 16))) = w13 at C13 ⊢
  have T13 := hide (C13.out.take 2)
  rw [← HL7.out, show ((2 : Nat) : Int) = 2 from rfl] at T13
  have N13 := hide (fun wx => number_any (l6.take 2) wx (Nat.le_trans (take_le _ _) (by omega)))
  rw [← HM.out] at N13
  have T14 := hide (fun wx cs (h : Cu w wx w.heap.size (w.heap.size + 1) (w.heap.size + 1 + 1) l7 cs) => h.take m)
  go_upto_region 9 with (first
    | (go_at_fn 159; (with_reducible refine T13.out.mono ?_); rintro y w14 ⟨rfl, hC⟩; have C14 := hide hC; have T14' := hide (T14.out _ _ hC); clear hC)
    | (go_at_call 160; (with_reducible refine (N13.out _).mono ?_); rintro y w15 ⟨rfl, hw15⟩; obtain rfl := hw15.symm)
    | (go_at_fn 159; (with_reducible refine T14'.out.mono ?_); rintro y w16 ⟨rfl, hC⟩; have C16 := hide hC; have k16 : w16.cell? ⟨w.heap.size + 1 + 1, 4, none⟩ = some (.string ⟨#[]⟩) := C16.out.rec_.cell 4; have f16 : w16.frozen? ⟨w.heap.size + 1 + 1, 4, none⟩ = false := C16.out.rec_.free 4; clear hC))
  have C17 := hide (C16.out.set 4 (.string (tx (l7.take m))))
  clear T13 N13 T14 T14' C14 C16 k16 f16 C13
  generalize w16.setCell ⟨w.heap.size + 1 + 1, 4, none⟩ (.string (tx (l7.take m))) = w17 at C17 ⊢
  have r0 : w17.cell? ⟨w.heap.size + 1 + 1, 0, none⟩ = some (.int .i64 (q : Int)) := C17.out.rec_.cell 0
  have r1 : w17.cell? ⟨w.heap.size + 1 + 1, 1, none⟩ = some (.string (tx (l3.take n))) := C17.out.rec_.cell 1
  have r2 : w17.cell? ⟨w.heap.size + 1 + 1, 2, none⟩ = some (.int .i64 (g : Int)) := C17.out.rec_.cell 2
  have r3 : w17.cell? ⟨w.heap.size + 1 + 1, 3, none⟩ = some (.string (tx (l5.take 16))) := C17.out.rec_.cell 3
  have r4 : w17.cell? ⟨w.heap.size + 1 + 1, 4, none⟩ = some (.string (tx (l7.take m))) := C17.out.rec_.cell 4
  have t0 : w17.cell? ⟨w.heap.size + 1, 0, none⟩ = some (.int .i64 0) := C17.out.res.cell 0
  have t1 : w17.cell? ⟨w.heap.size + 1, 1, none⟩ = some (.string ⟨#[]⟩) := C17.out.res.cell 1
  have t2 : w17.cell? ⟨w.heap.size + 1, 2, none⟩ = some (.int .i64 0) := C17.out.res.cell 2
  have t3 : w17.cell? ⟨w.heap.size + 1, 3, none⟩ = some (.string ⟨#[]⟩) := C17.out.res.cell 3
  have t4 : w17.cell? ⟨w.heap.size + 1, 4, none⟩ = some (.string ⟨#[]⟩) := C17.out.res.cell 4
  have u0 : w17.frozen? ⟨w.heap.size + 1, 0, none⟩ = false := C17.out.res.free 0
  have u1 : w17.frozen? ⟨w.heap.size + 1, 1, none⟩ = false := C17.out.res.free 1
  have u2 : w17.frozen? ⟨w.heap.size + 1, 2, none⟩ = false := C17.out.res.free 2
  have u3 : w17.frozen? ⟨w.heap.size + 1, 3, none⟩ = false := C17.out.res.free 3
  have u4 : w17.frozen? ⟨w.heap.size + 1, 4, none⟩ = false := C17.out.res.free 4
  have XR := hide (HasR.five C17.out.res (.int .i64 (q : Int)) (.string (tx (l3.take n))) (.int .i64 (g : Int)) (.string (tx (l5.take 16))) (.string (tx (l7.take m))))
  have BR := hide (C17.out.bel.trans ((stir5 w17 (w.heap.size + 1) (.int .i64 (q : Int)) (.string (tx (l3.take n))) (.int .i64 (g : Int)) (.string (tx (l5.take 16))) (.string (tx (l7.take m)))).below C17.out.bel.size (fun j hj => by simp at hj; omega)))
  go_wp2
  exact bodyPost_ret (v := .agg #[.int .i64 (q : Int), .string (tx (l3.take n)), .int .i64 (g : Int), .string (tx (l5.take 16)), .string (tx (l7.take m))]) (results_cell_row Tryz.results133 _ _ (w.heap.size + 1) 30 #[.int .i64 (q : Int), .string (tx (l3.take n)), .int .i64 (g : Int), .string (tx (l5.take 16)), .string (tx (l7.take m))] (0, 0) _ rfl XR.out Tryz.underlying30 rfl (by kernel_rfl)) rfl ⟨rfl, BR.out⟩
end Go.Proofs.YtkbaalenbpgheaaGreatDoor
