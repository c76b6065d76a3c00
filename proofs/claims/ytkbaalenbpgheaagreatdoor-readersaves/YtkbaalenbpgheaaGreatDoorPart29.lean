/- Texts of this proof, one behind the other. -/
import Derived.Test.YtkbaalenbpgheaaGreatDoorRows
import Derived.Test.YtkbaalenbpgheaaGreatDoorCards
import Derived.Test.YtkbaalenbpgheaaGreatDoorTie
import Derived.ProofKit
import Derived.LaidMore
import Derived.OpenShut
import Derived.Lay
import Derived.Stop.Joined
import Derived.Stop.LaidErr
import Derived.LaidHandle
import Derived.Lib.LaidTab
import Derived.HandedShaped
import Derived.SevenTiedAt
import Derived.Shelf.SlicesE.Clone
import Derived.Test.YtkbaalenbpgheaaGreatDoorPart28
/- What the rows' conditions give the walks: the table of the sum, the table of kinds, the library's own number and its type of errors; and the wrap that hands the world's shape on. -/
namespace Go.Proofs.YtkbaalenbpgheaaGreatDoor
open Go.ChangeShapes Go.WideShapes Go.ChangeAt Go.RowKit

/-- The variables' names, as the rows list them. -/
def nameA : String := (Rows.sourceForgetsRow.laid.map (·.1)).getD 0 ""
def nameH : String := (Rows.sourceForgetsRow.laid.map (·.1)).getD 1 ""
def nameK : String := (Rows.sourceForgetsRow.laid.map (·.1)).getD 2 ""
def nameL : String := (Rows.sourceForgetsRow.laid.map (·.1)).getD 3 ""
def nameF : String := (Rows.sourceForgetsRow.laid.map (·.1)).getD 4 ""
def typeH : String := match Rows.sourceForgetsRow.laid with
  | _ :: (_, .iface n _) :: _ => n
  | _ => ""
theorem gL : Tryz.prog.globalNamed nameL = some 1 := by kernel_rfl
theorem tL : (Tryz.prog.globals[1]?).map (·.type) = some 169 := by kernel_rfl
theorem cellsLy : Tryz.prog.cellsOf 168 = 2 := by kernel_rfl
theorem cellsLs : Tryz.prog.cellsOf 169 = 8 := by kernel_rfl
theorem gK : Tryz.prog.globalNamed nameK = some 3 := by kernel_rfl
theorem tK : (Tryz.prog.globals[3]?).map (·.type) = some 272 := by kernel_rfl
theorem c217 : Tryz.prog.cellsOf 190 = 1 := by kernel_rfl
theorem c258 : Tryz.prog.cellsOf 272 = 64 := by kernel_rfl
theorem etH : Tryz.prog.globalNamed nameH = some 0 := by kernel_rfl
theorem rtH : (Tryz.prog.cutTypes.find? (·.1 == typeH)).map (·.2) = some 199 := by kernel_rfl
theorem oneRowH : ((List.range 310).filter fun t => Tryz.prog.rowNamed t [101, 114, 114, 111, 114]) = [32] := by kernel_rfl
theorem typesSizeH : Tryz.prog.types.size = 310 := by kernel_rfl
/-- A row of the table. -/
theorem lay_elem {H : Type} {enc : TypeId × Value → H} {W : World} {base : Nat} {sp : Nat → Bool} {held : Bool} {m : Nat} {c : List Value} {x : DataW H × List MemPlace} (h : DataW.trod enc Tryz.prog W base sp held m 168 c = some x) (l : List UInt8) (z : Int) (hx : x.1 = .agg [.lit (.string l), .lit (.int .i64 z)]) : c = [.string ⟨l.toArray⟩, .int .i64 z] := by
  obtain ⟨y0, y1, n, rfl, hl, h0, h1⟩ := trod_struct2 Tryz.underlying168 h
  rw [cellsLy] at hl
  simp only [cells3, cells9] at h0 h1
  match c, hl with
  | [c0, c1], _ =>
    obtain ⟨s, e0, rfl, _⟩ := DataW.trod_string Tryz.underlying9 h0
    obtain ⟨k, e1, rfl, _⟩ := DataW.trod_int Tryz.underlying3 h1
    simp at e0 e1 hx
    rw [e0, e1, hx.2, ← hx.1, Lib.mk_data]
set_option maxRecDepth 100000 in
/-- The table of kinds, out of the row's condition and the world's shape. -/
theorem tabL_of {W : World} (hsh : W.ShapedOpen Tryz.prog) {l : List (String × DataW Unit)} (h : laidMet Tryz.prog ((nameL, Rows.laid_oubliette_event_layouts) :: l) W) : TabL W := by
  obtain ⟨ps, ⟨g, t, cs, fuel, p, q, hg, ht, hv, hd, _, _⟩, _, _⟩ := h
  obtain rfl : 1 = g := Option.some.inj (gL.symm.trans hg)
  obtain rfl : 169 = t := Option.some.inj (tL.symm.trans ht)
  obtain ⟨ds, hds, _, _⟩ := hsh.1 1 #[.string ⟨#[]⟩, .int .i64 0, .string ⟨#[]⟩, .int .i64 0, .string ⟨#[]⟩, .int .i64 0, .string ⟨#[]⟩, .int .i64 0] 169 (of_decide_eq_true (by kernel_rfl)) (by kernel_rfl)
  have hcs : ds = cs := by
    have hv' : W.var? Tryz.prog nameL = some cs := hv
    simp only [World.var?, gL, Option.bind_some, hds] at hv'
    exact Option.some.inj hv'
  subst hcs
  show W.heap[1]? = some (.cells layRow 169 (0, 0))
  rw [hds]
  obtain ⟨xs, m, _, ex, hl, hlen, hel⟩ := DataW.trod_array Tryz.underlying169 hd
  rw [cellsLs] at hl
  have ed := (Prod.mk.inj ex).1
  have e1 : xs.map (·.1) = [.agg [.lit (.string []), .lit (.int .i64 0)], .agg [.lit (.string [112, 117, 116]), .lit (.int .i64 5)], .agg [.lit (.string [100, 101, 108]), .lit (.int .i64 4)], .agg [.lit (.string [103, 111, 110, 101]), .lit (.int .i64 2)]] := (DataW.agg.inj ed).symm
  match xs, hlen, e1, hel with
  | [y0, y1, y2, y3], _, e1, hel =>
    simp only [List.map_cons, List.map_nil, List.cons.injEq, and_true] at e1
    obtain ⟨a0, a1, a2, a3⟩ := e1
    have b0 := lay_elem (x := y0) (by simpa [cellsLy] using hel 0 (by decide)) _ _ a0
    have b1 := lay_elem (x := y1) (by simpa [cellsLy] using hel 1 (by decide)) _ _ a1
    have b2 := lay_elem (x := y2) (by simpa [cellsLy] using hel 2 (by decide)) _ _ a2
    have b3 := lay_elem (x := y3) (by simpa [cellsLy] using hel 3 (by decide)) _ _ a3
    have hall : ds.toList = [.string ⟨#[]⟩, .int .i64 0, .string ⟨#[112, 117, 116]⟩, .int .i64 5, .string ⟨#[100, 101, 108]⟩, .int .i64 4, .string ⟨#[103, 111, 110, 101]⟩, .int .i64 2] := by
      match hL : ds.toList, hl with
      | [c0, c1, c2, c3, c4, c5, c6, c7], _ =>
        rw [hL] at b0 b1 b2 b3
        simp at b0 b1 b2 b3
        simp [b0, b1, b2, b3]
    have hrow : ds = layRow := by
      apply Array.ext'
      rw [hall]; rfl
    rw [hrow]
/-- The library's own number, out of the world's shape. -/
theorem tabM_of {W : World} (hsh : W.ShapedOpen Tryz.prog) : TabM W := laysSplitN.s1_3 W hsh
/-- The numbers of the turns as the row lists them. -/
def kInts : List Int := kNat.map fun (n : Nat) => (n : Int)
theorem kInts_ok : (List.range 64).all (fun i => decide (N (wd kTab i) = kInts.getD i 0)) = true := by decide +kernel
theorem tabK_of {W : World} {l : List (String × DataW Unit)} (h : laidMet Tryz.prog ((nameK, Rows.laid_oubliette_sum_roundNumbers) :: l) W) : TabK W := by
  have hK := Lib.tabIs_of_head (k := .u32) (zs := kInts) gK tK Tryz.underlying272 Tryz.underlying190 c217 c258 h
  intro i hi
  rw [hK.cell gK i (by show i < 64; exact hi)]
  have h4 := List.all_eq_true.1 kInts_ok i (by simp; omega)
  rw [← of_decide_eq_true h4]
theorem tabE_ofH {W : World} (h : handlesMet Tryz.prog [(nameH, Rows.laid_errors_errorType)] W) : TabE W := by
  obtain ⟨name, u, ty, e1, e2, e3, e4, e5⟩ := h _ (List.mem_singleton.2 rfl)
  have en : name = [101, 114, 114, 111, 114] := (Option.some.inj e1).symm
  subst en
  obtain rfl := Option.some.inj (rtH.symm.trans e2)
  have hm : ty ∈ (List.range 310).filter fun t => Tryz.prog.rowNamed t [101, 114, 114, 111, 114] := List.mem_filter.2 ⟨List.mem_range.2 (by rw [← typesSizeH]; exact e3), e4⟩
  rw [oneRowH] at hm
  obtain rfl := List.mem_singleton.1 hm
  have hh : typeHandle Tryz.prog 32 = .pointer (some ⟨6, 32, none⟩) := by kernel_rfl
  rw [hh] at e5
  unfold TabE
  simpa using World.var?_cell etH e5 0
/-- The listed data, less the handle. -/
def dataL : List (String × DataW Unit) := [(nameA, Rows.laid_unicode_utf8_acceptRanges), (nameK, Rows.laid_oubliette_sum_roundNumbers), (nameL, Rows.laid_oubliette_event_layouts), (nameF, Rows.laid_unicode_utf8_first)]
/-- What the rows' condition and the world's shape give the walks. -/
theorem tabs_of {W : World} (hsh : W.ShapedOpen Tryz.prog) (h : laidMetH Tryz.prog Rows.sourceForgetsRow.laid W) : Tabs W := by
  have h' : laidMet Tryz.prog dataL W ∧ handlesMet Tryz.prog [(nameH, Rows.laid_errors_errorType)] W := h
  exact ⟨tabK_of (laidMet.tail h'.1), tabL_of hsh (laidMet.tail (laidMet.tail h'.1)), tabM_of hsh, tabE_ofH h'.2⟩
/-- A list of variables, laid by the function over whatever world. -/
theorem laidMet_on {P : Program} {w0 w' : World} {l : List (String × DataW Unit)} (hh : w'.heap = (w0.layVars P l).heap) (hf : w0.layFits P l [] = true) (hi : w0.layIfaces P l w' = true) : laidMet P l w' := by
  have e1 : (l.filter fun x => (l.map (·.1)).contains x.1) = l := List.filter_eq_self.2 fun x hx => List.contains_iff_mem.2 (List.mem_map.2 ⟨x, hx, rfl⟩)
  have e2 : (l.filter fun x => !(l.map (·.1)).contains x.1) = [] := List.filter_eq_nil_iff.2 fun x hx => by rw [List.contains_iff_mem.2 (List.mem_map.2 ⟨x, hx, rfl⟩)]; simp
  exact laidMet_layVars (w0 := w0) (l.map (·.1)) [] (by rw [e1]; exact hh) (by rw [e1]; exact hf) (by rw [e1]; exact hi) (by rw [e2]; exact LaidIn.none)
set_option maxRecDepth 100000 in
/-- The library's wrap of a row that lists variables, with the world's shape handed on besides. -/
theorem returns_listed {H : Type} {enc : TypeId × Value → H} {os : Os} {f : FuncId} {fn : Func} {s : ChangeSpec} {L : List (String × DataW Unit)}
    (started : os.Started) (noInit : Tryz.checked.prog.inits.idxOf? f = none) (hfn : Tryz.checked.prog.funcs[f]? = some fn)
    (witness : ∃ (w : World) (tape : Tape) (i : Input), w.os = os ∧ (w.forCall tape i).Shaped Tryz.checked.prog ∧ i.vars = [] ∧ Input.okWide Tryz.checked.prog (w.forCall tape i) .any w.heap.size f i ∧
      ((s.pre enc Tryz.checked.prog fn [] false (w.forCall tape i).memory i.args ∧ laidMetH Tryz.prog L (w.forCall tape i).memory) ∧ sizedMet enc Tryz.checked.prog fn (OpenSpec.ofChange s) false (w.forCall tape i).memory i.args) ∧ ({} : Assume).holds Tryz.checked.prog (lone (Frame.enter Tryz.checked.prog f i.args .normal) [] (w.forCall tape i)))
    (walk : ∀ (W : World) (base : Nat) (args : Array Value) (ds gs : List (DataW H)) (before : List MemPlace),
      (∀ (j : Nat) t v, fn.params[j]? = some t → args[j]? = some v → Value.okWide Tryz.prog W .any base t v) →
      DataW.Whole enc Tryz.checked.prog fn.params.toList s.vars false W args.toList ds gs before → W.ShapedOpen Tryz.prog → laidMetH Tryz.prog L W →
      Calls Tryz.prog f args W fun e W' => ∃ v, e = .returned v ∧ s.post enc Tryz.checked.prog fn false true false false W args v W') :
    ReturnsInHanded {} Tryz.checked os f .any (fun w args => (s.pre enc Tryz.prog fn [] false w args ∧ laidMetH Tryz.prog L w) ∧ sizedMet enc Tryz.prog fn (OpenSpec.ofChange s) false w args) (s.post enc Tryz.prog fn false true false false) := by
  refine returnsInHanded_of_calls own started noInit witness ?_
  intro w tape i _ hsh _ hok hpre _
  obtain ⟨_, _, _, fn', hfn', _, _, _, _, hval⟩ := hok
  obtain rfl : fn' = fn := Option.some.inj (hfn'.symm.trans hfn)
  obtain ⟨⟨⟨ds, gs, before, hw, _⟩, hx⟩, _⟩ := hpre
  refine (walk (w.forCall tape i) w.heap.size i.args ds gs before hval (DataW.Whole.of_heap (w' := w.forCall tape i) (by rfl) hw) hsh (hx.of_heap (by rfl))).mono fun e W' ⟨v, he, hp⟩ => ?_
  subst he
  exact ChangeSpec.post_blind hp
end Go.Proofs.YtkbaalenbpgheaaGreatDoor

/- Do of any short event: it happened, or an error is told and nothing is changed. -/
namespace Go.Proofs.YtkbaalenbpgheaaGreatDoor
open Go.RowKit Go.Sort
/-- An event that happens: it may be, it is not refused, and who is forgotten is known. -/
def doesB (σ : Kept) (τ : Tab) (e : Ev) : Bool := rightB e && (decide (refuseB τ e = 0) && (!decide (e.k = 3) || (σ e.s.data.toList).2))
theorem do_any (B : Nat) (w : World) (sb fb vb : Nat) (mt mv : Option Nat) (v : Value) (nt nv : Nat) (sec : ByteArray) (σ : Kept) (τ : Tab) (rs : List Rec) (e : Ev) (h : Src B w sb fb vb mt mv v nt nv sec σ τ rs) (he : Brief e) (hp : sec.size ≤ 60) (hlen : rs.length < 100) (hnv : nv < 1000) (hnt : nt < 1000) (T : Tabs w) (hB : 3 < B) :
    Calls Tryz.prog 10 #[.pointer (some ⟨sb, 0, none⟩), .agg #[.int .i64 e.k, .string e.s, .string e.t, .string e.r, .string e.v]] w fun x w' =>
      (doesB σ τ e = true ∧ x = .returned (.tuple #[.agg (recA (tellR sec σ rs e)), .nilIface]) ∧ (∃ mt' m v', Src B w' sb fb vb mt' (some m) v' (nt + 1) (nv + 1) sec (tellK σ e) (app e τ) (rs ++ [tellR sec σ rs e]) ∧ ∀ j ∈ ownS sb fb vb mt' (some m) v', j ∈ ownS sb fb vb mt mv v ∨ w.heap.size ≤ j) ∧ Stirred (ownS sb fb vb mt mv v) w w' ∧ Below B w w') ∨
      (doesB σ τ e = false ∧ (∃ n : Int, x = .returned (.tuple #[.agg #[.int .i64 0, .string ⟨#[]⟩, .int .i64 0, .string ⟨#[]⟩, .string ⟨#[]⟩], .iface 56 (.int .i64 n)])) ∧ Src B w' sb fb vb mt mv v nt nv sec σ τ rs ∧ Below w.heap.size w w') := by
  by_cases h0 : refuseB τ e = 0
  · cases hr : rightB e
    · refine (do_untold sb fb _ mt nt τ e 1 w he h.tab h0 (fun wx _ => tell_bad wx fb e hr)).mono ?_
      rintro x w' ⟨rfl, hb⟩
      exact .inr ⟨by unfold doesB; rw [hr]; rfl, ⟨_, rfl⟩, h.still hb, hb⟩
    · by_cases hk : e.k = 3 ∧ (σ e.s.data.toList).2 = false
      · refine (do_untold sb fb _ mt nt τ e 8 w he h.tab h0 (fun wx hb => tell_none wx fb vb v rs mv sec nv σ e (h.still hb).feed (h.still hb).keys hr hk.1 hk.2 h.fit hlen (T.k.below hb T.k.lt) (T.l.below hb T.l.lt))).mono ?_
        rintro x w' ⟨rfl, hb⟩
        exact .inr ⟨by unfold doesB; rw [hr, hk.2]; simp [hk.1], ⟨_, rfl⟩, h.still hb, hb⟩
      · have hg : e.k = 3 → (σ e.s.data.toList).2 = true := fun e3 => by
          cases hq : (σ e.s.data.toList).2
          · exact absurd ⟨e3, hq⟩ hk
          · rfl
        refine (do_ok B w sb fb vb mt mv v nt nv sec σ τ rs e h he hr h0 hg hp hlen hnv hnt T.l (fun w' hb => T.k.below hb hB)).mono ?_
        rintro x w' ⟨rfl, hs, hb⟩
        refine .inl ⟨?_, rfl, hs, hb, hb.below h.base h.lowO⟩
        unfold doesB
        rw [hr]
        by_cases e3 : e.k = 3
        · simp [h0, hg e3]
        · simp [h0, e3]
  · refine (do_refused sb _ _ mt nt τ e w he h.tab h0).mono ?_
    rintro x w' ⟨rfl, hb⟩
    exact .inr ⟨by unfold doesB; simp [h0], ⟨_, rfl⟩, h.still hb, hb⟩
theorem does_parts {σ : Kept} {τ : Tab} {e : Ev} (h : doesB σ τ e = true) : rightB e = true ∧ refuseB τ e = 0 := by
  unfold doesB at h
  simp only [Bool.and_eq_true, decide_eq_true_eq] at h
  exact ⟨h.1, h.2.1⟩
end Go.Proofs.YtkbaalenbpgheaaGreatDoor

/- A feed's records, and a source's: a fresh row. -/
namespace Go.Proofs.YtkbaalenbpgheaaGreatDoor
open Go.RowKit Go.Sort Go.Shelf
attribute [local go_sem ↓] Go.wp_at_zero Go.wp_at_succ
def laysCloneR_ren : Go.Shelf.Ren := ⟨fun | 41 => 78 | n => n, fun | 22 => 39 | 23 => 30 | 4 => 4 | n => n, fun | n => n⟩
theorem laysCloneR : Go.Proofs.SlLaysE0.n41 Tryz.prog laysCloneR_ren := {
  mixed := by kernel_rfl
  f41 := ⟨Tryz.f78.name, by decide, Tryz.func78.trans (congrArg some (by kernel_rfl))⟩
  t4 := Tryz.underlying4
  a4 := Tryz.isAgg4
  z4 := Tryz.sizeOf4
  v4 := Tryz.zeroValue4
  t22 := Tryz.underlying39
  a22 := Tryz.isAgg39
  z22 := Tryz.sizeOf39
  v22 := Tryz.zeroValue39 }
theorem recsL_len : ∀ rs : List Rec, (recsL rs).length = rs.length * 5
  | [] => rfl
  | r :: rs => by
    have ih := recsL_len rs
    have e : recsL (r :: rs) = recL r ++ recsL rs := rfl
    have e5 : (recL r).length = 5 := rfl
    rw [e, List.length_append, ih, e5, List.length_cons]
    omega
theorem recL_one (r : Rec) (u : Value) (h : u ∈ recL r) : u.oneCell' = true := by
  simp only [recL, List.mem_cons, List.not_mem_nil, or_false] at h
  rcases h with rfl | rfl | rfl | rfl | rfl <;> rfl
/-- slices.Clone. -/
theorem cloneR_any (b : Nat) (v : Value) (rs : List Rec) (w : World) (h : w.ownsRow b 30 5 v rs.length (recsL rs)) (hl : rs.length ≤ 1000) :
    Calls Tryz.prog 78 #[v] w fun x w' => ∃ u, x = .returned u ∧ w'.ownsRow w.heap.size 30 5 u rs.length (recsL rs) ∧ Below w.heap.size w w' := by
  obtain ⟨i0, hi, hz0, hz1, hz2⟩ := info_parts info66
  have hlen := recsL_len rs
  rcases h.2 with ⟨e, e0⟩ | ⟨g, cap, cur, hv, hb, hg, h1, h2, h3, h4⟩
  · subst e
    have er : rs = [] := List.eq_nil_of_length_eq_zero e0
    subst er
    refine (AnyE.slices_Clone_nil (ρ := laysCloneR_ren) laysCloneR 0 0 w).mono ?_
    rintro x w' ⟨rfl, rfl⟩
    exact ⟨_, rfl, World.ownsRow_nil _ _ _ _, Below.refl _ _⟩
  · subst hv
    refine (AnyE.slices_Clone (ρ := laysCloneR_ren) laysCloneR i0 (.agg rec0) 5 64 hi hz0 hz1 hz2 rfl (by omega) (fun w => Tryz.sizeOf30 w) g 0 rs.length cap (recsL rs) w hlen (by unfold maxLen; omega) (by omega) ?_ ?_).mono ?_
    · intro j u hj
      have hj5 : j < rs.length * 5 := by
        have := (List.getElem?_eq_some_iff.1 hj).1
        omega
      rw [Nat.zero_add, cell_of_row w g _ cur 30 (0, 0) hg, ← Array.getElem?_toList, ← List.getElem?_take_of_lt (j := rs.length * 5) hj5, h4]
      exact hj
    · intro u hu
      unfold recsL at hu
      obtain ⟨r, _, hr⟩ := List.mem_flatMap.1 hu
      exact recL_one r u hr
    · rintro x w' ⟨u, rfl, ho, _, hb⟩
      exact ⟨u, rfl, ho, hb⟩
set_option maxRecDepth 100000 in
set_option maxHeartbeats 1000000 in
theorem records_any (w : World) (fb vb : Nat) (v : Value) (rs : List Rec) (h : FeedV w fb vb v rs) (hl : rs.length ≤ 1000) :
    Calls Tryz.prog 50 #[.pointer (some ⟨fb, 0, none⟩)] w fun x w' => ∃ u, x = .returned u ∧ w'.ownsRow w.heap.size 30 5 u rs.length (recsL rs) ∧ Below w.heap.size w w' := by
  have hq := ptrF_nil fb
  have c1 : w.cell? ⟨fb, 1, none⟩ = some v := h.row.cell 1
  obtain ⟨p, c, rfl⟩ := h.slice
  have C := hide (cloneR_any (fb + 1) _ rs w h.own hl)
  clear h
  go_enter Tryz.func50, Tryz.ntmps50
  go_wp2_with (go_at_call 78; (with_reducible refine C.out.mono ?_); rintro x w1 ⟨u, rfl, ho, hb⟩)
  go_ret
  exact ⟨u, rfl, ho, hb⟩
set_option maxRecDepth 100000 in
set_option maxHeartbeats 1000000 in
theorem srcFeed_any (B : Nat) (w : World) (sb fb vb : Nat) (mt mv : Option Nat) (v : Value) (nt nv : Nat) (sec : ByteArray) (σ : Kept) (τ : Tab) (rs : List Rec) (h : Src B w sb fb vb mt mv v nt nv sec σ τ rs) (hl : rs.length ≤ 1000) :
    Calls Tryz.prog 13 #[.pointer (some ⟨sb, 0, none⟩)] w fun x w' => ∃ u, x = .returned u ∧ w'.ownsRow w.heap.size 30 5 u rs.length (recsL rs) ∧ Below w.heap.size w w' := by
  have hq := ptrS_nil sb
  have c1 : w.cell? ⟨sb, 1, none⟩ = some (.pointer (some ⟨fb, 0, none⟩)) := h.tab.row.cell 1
  have C := hide (records_any w fb vb v rs h.feed hl)
  clear h
  go_enter Tryz.func13, Tryz.ntmps13
  go_wp2_with (go_at_call 50; (with_reducible refine C.out.mono ?_); rintro x w1 ⟨u, rfl, ho, hb⟩)
  go_ret
  exact ⟨u, rfl, ho, hb⟩
end Go.Proofs.YtkbaalenbpgheaaGreatDoor
