/- Texts of this proof, one behind the other. -/
import Derived.Deep.DeepCutAuto
import Derived.Test.YtedcbjefkhgiiabGreatDoorPart30
/- The program's table beside the document's: what each event, and each look, leaves of both. -/
namespace Go.Proofs.YtedcbjefkhgiiabGreatDoor
open Go.RowKit Go.Sort
set_option linter.unusedSectionVars false
variable [Inhabited Cl]
/-- The document's table lies in the first block that the law made, the program's in the second. -/
structure Two (W w : World) (mo : Option Nat) (n j : Nat) (τ σ : Tab) (v : Value) (l : List Cl) : Prop where
  bel : Below W.heap.size W w
  tab : TabV w (W.heap.size + 1) mo n τ
  low : ∀ m, mo = some m → W.heap.size + 2 ≤ m
  ref : HasR w W.heap.size 27 #[v]
  row : RefRow w (W.heap.size + 2) v l
  ord : InOrd σ l
  len : l.length ≤ j
  err : TabE W
theorem Two.tabE {W w : World} {mo : Option Nat} {n j : Nat} {τ σ : Tab} {v : Value} {l : List Cl} (h : Two W w mo n j τ σ v l) : TabE w := h.err.below h.bel h.err.lt
theorem Two.start {W : World} (h : TabE W) : Two W ((W.alloc (.cells #[.slice none 0 0] 27)).alloc (.cells #[.map none] 30)) none 0 0 tab0 tab0 (.slice none 0 0) [] := by
  have b1 : Below W.heap.size W (W.alloc (.cells #[.slice none 0 0] 27)) := (Below.refl _ W).alloc (Nat.le_refl _) _
  have s1 : (W.alloc (.cells #[.slice none 0 0] 27)).heap.size = W.heap.size + 1 := by simp
  refine ⟨b1.alloc b1.size _, ⟨?_, fun _ => rfl, (fun m e => by cases e)⟩, (fun m e => by cases e), (HasR.new W 27 _).alloc _, .inl ⟨rfl, rfl⟩, inOrd0, Nat.le_refl _, h⟩
  have := HasR.new (W.alloc (.cells #[.slice none 0 0] 27)) 30 #[.map none]
  rw [s1] at this
  exact this
theorem Two.still {W w w' : World} {mo : Option Nat} {n j : Nat} {τ σ : Tab} {v : Value} {l : List Cl} (h : Two W w mo n j τ σ v l) (k : Below w.heap.size w w') : Two W w' mo n j τ σ v l :=
  ⟨h.bel.trans (k.mono h.bel.size), h.tab.below k, h.low, h.ref.below k h.ref.lt, h.row.below k, h.ord, h.len, h.err⟩
theorem Two.stepP {W w w' : World} {mo mo' : Option Nat} {n m j : Nat} {τ τ' σ : Tab} {v : Value} {l : List Cl} (h : Two W w mo n j τ σ v l) (hu : Upd w w' (W.heap.size + 1) mo mo' m τ') : Two W w' mo' m j τ' σ v l := by
  obtain ⟨h1, h2, h3⟩ := hu
  have hb := h.bel.size
  have mem : ∀ x, x ∈ mo.toList → W.heap.size + 2 ≤ x := fun x hx => h.low x (by simpa using hx)
  refine ⟨h.bel.trans (h3.below hb (fun x hx => ?_)), h1, ?_, h.ref.turned h3 (fun hx => ?_), h.row.turned h3 (fun g hg hx => ?_), h.ord, h.len, h.err⟩
  · rcases List.mem_cons.1 hx with rfl | hx
    · omega
    · have := mem x hx; omega
  · intro x hx
    rcases h2 with rfl | ⟨_, y, hy, hl⟩
    · exact h.low x hx
    · rw [hy] at hx
      cases hx
      have := h.tab.row.lt
      omega
  · rcases List.mem_cons.1 hx with hx | hx
    · omega
    · have := mem _ hx; omega
  · rcases List.mem_cons.1 hx with hx | hx
    · rcases h.row with ⟨e, _⟩ | ⟨g', cap, e, _, hlo, _⟩
      · rw [e] at hg; cases hg
      · rw [e] at hg
        have hg1 : some g' = some g := hg
        simp only [Option.some.injEq] at hg1
        omega
    · obtain ⟨D, ho, _⟩ := h.tab.held g (by simpa using hx)
      exact h.row.map ho g hg rfl
theorem Two.stepR {W w w' : World} {mo : Option Nat} {n j : Nat} {τ σ σ' : Tab} {v v' : Value} {l l' : List Cl} (h : Two W w mo n j τ σ v l) (h1 : HasR w' W.heap.size 27 #[v']) (h2 : RefRow w' (W.heap.size + 2) v' l') (h3 : InOrd σ' l') (h4 : l'.length ≤ l.length + 1) (h5 : Stirred [W.heap.size] w w') : Two W w' mo n (j + 1) τ σ' v' l' :=
  have hl := h.len
  ⟨h.bel.trans (h5.below h.bel.size (fun x hx => by simp at hx; omega)), h.tab.turned h5 (by simp) (fun m e => by have := h.low m e; simp; omega), h.low, h1, h2, h3, by omega, h.err⟩
/-- The document's number of what an event comes to. -/
def codeOf (e : Ev) : Int := if rightB e = true then 0 else 1
theorem refBoth_any (W w : World) (mo : Option Nat) (n j : Nat) (τ σ : Tab) (v : Value) (l : List Cl) (e : Ev) (h : Two W w mo n j τ σ v l) (he : Brief e) (hj : j ≤ 40) :
    Calls Tryz.prog 13 #[.pointer (some ⟨W.heap.size, 0, none⟩), .agg #[.int .i64 e.k, .string e.s, .string e.t, .string e.r, .string e.v]] w fun x w' => x = .returned (.int .i64 (codeOf e)) ∧ ∃ v' l', Two W w' mo n (j + 1) τ (app e σ) v' l' := by
  have hl := h.len
  have ht := h.tab.row.lt
  cases hr : rightB e with
  | true =>
    refine (refApply_right W.heap.size (W.heap.size + 2) e σ l v w he hr h.ref h.row (by omega) h.ord (by omega)).mono ?_
    rintro x w' ⟨rfl, v', l', h1, h2, h3, h4, h5⟩
    exact ⟨by unfold codeOf; rw [if_pos hr], v', l', h.stepR h1 h2 h3 h4 h5⟩
  | false =>
    refine (refApply_wrong W.heap.size e w he hr).mono ?_
    rintro x w' ⟨rfl, hb⟩
    have h' := h.still hb
    refine ⟨by unfold codeOf; rw [if_neg (by rw [hr]; decide)], v, l, ?_⟩
    rw [app_wrong hr]
    exact ⟨h'.bel, h'.tab, h'.low, h'.ref, h'.row, h'.ord, by omega, h'.err⟩
theorem bareApply_any (e : Ev) (w : World) (hE : TabE w) : Calls Tryz.prog 11 #[errOf e, .int .i64 (codeOf e)] w fun x w' => x = .returned (.bool true) ∧ Below w.heap.size w w' := by
  unfold errOf codeOf
  cases hr : rightB e with
  | true =>
    rw [if_pos rfl, if_pos rfl]
    exact bareE_nil w
  | false =>
    rw [if_neg (by decide), if_neg (by decide)]
    exact bareE_same 1 w hE
/-- Both looks at a row. -/
theorem gets_both (W w0 : World) (mo : Option Nat) (n j : Nat) (σ : Tab) (v : Value) (l : List Cl) (t r : ByteArray) (h0 : Two W w0 mo n j σ σ v l) (ht : t.size ≤ 60) (hr : r.size ≤ 60) (hj : j ≤ 1000) :
    ∃ (x : Cl) (ev ec : Value), (∀ w, Below w0.heap.size w0 w → Calls Tryz.prog 16 #[.pointer (some ⟨W.heap.size, 0, none⟩), .string t, .string r] w fun y w' => y = .returned (.tuple #[.agg #[.string x.t, .string x.r, .string x.s, .string x.v], ec]) ∧ Below w.heap.size w w') ∧
      (∀ w, Below w0.heap.size w0 w → Calls Tryz.prog 17 #[.pointer (some ⟨W.heap.size + 1, 0, none⟩), .string t, .string r] w fun y w' => y = .returned (.tuple #[.agg #[.string x.t, .string x.r, .string x.s, .string x.v], ev]) ∧ Below w.heap.size w w') ∧
      (∀ w, TabE w → Calls Tryz.prog 11 #[ev, ec] w fun y w' => y = .returned (.bool true) ∧ Below w.heap.size w w') := by
  refine ⟨atC σ t r, if (σ t r).isSome = true then .nilIface else .iface 38 (.int .i64 7), if (σ t r).isSome = true then .int .i64 0 else .int .i64 7, ?_, ?_, ?_⟩
  · intro w hb
    have h := h0.still hb
    have hl := h.len
    exact refGet_any W.heap.size (W.heap.size + 2) t r σ l v w h.ref h.row h.ord (by omega)
  · intro w hb
    have h := h0.still hb
    exact get_any (W.heap.size + 1) mo t r n σ w ht hr h.tab
  · intro w hE
    cases (σ t r).isSome with
    | true => exact bareE_nil w
    | false => exact bareE_same 7 w hE
end Go.Proofs.YtedcbjefkhgiiabGreatDoor

/- Whatever happens, which rows there are is the document's: the law's own walk. -/
namespace Go.Proofs.YtedcbjefkhgiiabGreatDoor
open Go.RowKit Go.Sort
attribute [local go_sem ↓] Go.wp_at_zero Go.wp_at_succ
set_option linter.unusedSectionVars false
variable [Inhabited Cl] [Inhabited Ev]
theorem runs_take {es : List Ev} {k : Nat} (h : k < es.length) (σ : Tab) : runs (es.take (k + 1)) σ = app es[k]! (runs (es.take k) σ) := by
  rw [List.take_succ_eq_append_getElem h, runs_snoc, getElem!_pos es k h]
/-- The law's row of two names. -/
theorem Two.evs {W w : World} {mo : Option Nat} {n j : Nat} {τ σ : Tab} {v : Value} {l : List Cl} {b o : Nat} {e : Ev} (h : Two W w mo n j τ σ v l) (c : ∀ i u, (evL e)[i]? = some u → W.cell? ⟨b, o + i, none⟩ = some u) :
    w.cell? ⟨b, o, none⟩ = some (.int .i64 e.k) ∧ w.cell? ⟨b, o + 1, none⟩ = some (.string e.s) ∧ w.cell? ⟨b, o + 2, none⟩ = some (.string e.t) ∧ w.cell? ⟨b, o + 3, none⟩ = some (.string e.r) ∧ w.cell? ⟨b, o + 4, none⟩ = some (.string e.v) :=
  have g : ∀ i u, (evL e)[i]? = some u → w.cell? ⟨b, o + i, none⟩ = some u := fun i u hu => (h.bel.cell (p := ⟨b, o + i, none⟩) (block_lt_of_cell (c i u hu))).trans (c i u hu)
  ⟨g 0 _ rfl, g 1 _ rfl, g 2 _ rfl, g 3 _ rfl, g 4 _ rfl⟩
set_option maxHeartbeats 8000000 in
set_option maxRecDepth 100000 in
theorem applies_some (v : Value) (es : List Ev) (name row : ByteArray) (W : World) (hE : TabE W) (hv : EvRow W v es) (h40 : es.length ≤ 40) (hn : name.size ≤ 60) (hr : row.size ≤ 60) :
    Calls Tryz.prog 3 #[v, .string name, .string row] W fun x w' => x = .returned (.bool true) ∧ Below W.heap.size W w' := by
  obtain ⟨ao, cap, rfl⟩ := hv.slice
  have LA := hide (fun wx => longE_any name wx)
  have LB := hide (fun wx => longE_any row wx)
  rw [decide_eq_false (by omega)] at LA LB
  have HV := hide hv
  have S0 := hide (Two.start hE)
  have h40z : ¬ (40 : Int) < (es.length : Int) := by omega
  clear hv hE
  go_enter Tryz.func3, Tryz.ntmps3
  go_wp2_with (first
    | (go_at_call 9; (with_reducible refine (LA.out _).mono ?_); rintro e w1 ⟨rfl, hw1⟩; obtain rfl := hw1.symm)
    | (go_at_call 9; (with_reducible refine (LB.out _).mono ?_); rintro e w1 ⟨rfl, hw1⟩; obtain rfl := hw1.symm))
  go_loopw [9] (fun i wr => ∃ (k : Nat) (mo : Option Nat) (vr : Value) (l : List Cl), i = .int .i64 k ∧ k ≤ es.length ∧ Two W wr mo k k (runs (es.take k) tab0) (runs (es.take k) tab0) vr l) (fun i _ => es.length - (intOf i).toNat)
  case atStart => exact ⟨0, none, _, [], rfl, Nat.zero_le _, S0.out⟩
  case round =>
    clear S0
    obtain ⟨k, mo, vr, l, rfl, hk, hT⟩ := hrel
    have T := hide hT
    clear hT
    by_cases hlt : k < es.length
    · have HR := hide (runs_take hlt tab0)
      obtain ⟨b, off, rfl, hcap, hc⟩ := HV.out.spot hlt
      have HC := hide hc
      clear hc
      generalize es[k]! = f at HC HR
      obtain ⟨c0, c1, c2, c3, c4⟩ := T.out.evs HC.out
      have LE := hide (longEvent_any f.k f.s f.t f.r f.v wr)
      by_cases hbig : (decide (60 < f.s.size) || (decide (60 < f.t.size) || (decide (60 < f.r.size) || decide (60 < f.v.size)))) = true
      · rw [hbig] at LE
        go_wp2_with (go_at_call 10; (with_reducible refine LE.out.mono ?_); rintro x w5 ⟨rfl, hb5⟩; have T5 := hide (T.out.still hb5); clear hb5)
        go_ret
        exact ⟨rfl, T5.out.bel⟩
      · have hbr : Brief f := by
          simp only [Bool.or_eq_true, decide_eq_true_eq, not_or, Nat.not_lt] at hbig
          exact ⟨hbig.1, hbig.2.1, hbig.2.2.1, hbig.2.2.2⟩
        rw [Bool.not_eq_true] at hbig
        rw [hbig] at LE
        have HBR := hide hbr
        clear hbig hbr
        go_upto_region 10 with (go_at_call 10; (with_reducible refine LE.out.mono ?_); rintro x w5 ⟨rfl, hb5⟩; have T5 := hide (T.out.still hb5); clear hb5)
        clear c0 c1 c2 c3 c4 LE
        obtain ⟨c0, c1, c2, c3, c4⟩ := T5.out.evs HC.out
        go_cut [61] (fun s61 wx => s61 = .bool false ∧ ∃ mo' v7 l7, Two W wx mo' (k + 1) (k + 1) (app f (runs (es.take k) tab0)) (app f (runs (es.take k) tab0)) v7 l7)
        case first =>
          have Td := hide (T5.out.still (Below.refl _ w5).drew)
          have P := hide (apply_any (W.heap.size + 1) mo f k _ w5.drew HBR.out (by omega) Td.out.tab)
          go_region_with (first
            | (go_at_call 12; (with_reducible refine P.out.mono ?_); rintro x w6 ⟨rfl, mo', hu⟩; have T6 := hide (Td.out.stepP hu); obtain ⟨e0, e1, e2, e3, e4⟩ := T6.out.evs HC.out; have R := hide (refBoth_any W w6 mo' _ k _ _ vr l f T6.out HBR.out (by omega)); clear hu)
            | (go_at_call 13; (with_reducible refine R.out.mono ?_); rintro x w7 ⟨rfl, v7, l7, hT7⟩; have T7 := hide hT7; have BR := hide (bareApply_any f w7 hT7.tabE); clear hT7)
            | (go_at_call 11; (with_reducible refine BR.out.mono ?_); rintro x w8 ⟨rfl, hb8⟩; have T8 := hide (T7.out.still hb8); have m8 : w8.cell? ⟨W.heap.size, 0, none⟩ = some v7 := T8.out.ref.cell 0; have C8 := hide (cells_any (W.heap.size + 1) mo' _ _ w8 (by omega) T8.out.tab); clear hb8)
            | (go_at_call 15; (with_reducible refine C8.out.mono ?_); rintro x w9 ⟨v9, ds, rfl, ho9, hl9, hr9, hb9⟩; have T9 := hide (T8.out.still hb9); have m9 : w9.cell? ⟨W.heap.size, 0, none⟩ = some v7 := T9.out.ref.cell 0; obtain rfl := ho9.eq T9.out.ord; have S9 := hide (sameCells_any _ _ v9 v7 _ w9 hr9 T9.out.row (by omega)); clear hb9 hr9 ho9)
            | (go_at_call 14; (with_reducible refine S9.out.mono ?_); rintro x w10 ⟨rfl, hb10⟩; have T10 := hide (T9.out.still hb10); clear hb10))
          all_goals
            go_wp2
            go_meet
            exact ⟨by simp, _, _, _, T10.out⟩
        case rest =>
          clear c0 c1 c2 c3 c4 T5 T
          obtain ⟨rfl, mo', v7, l7, hT7⟩ := hcut
          have T := hide hT7
          clear hT7
          obtain ⟨c0, c1, c2, c3, c4⟩ := T.out.evs HC.out
          go_upto_region 13 with fail
          have S2 := hide (T.out.still ((Below.refl _ wc).alloc (Nat.le_refl _) (.cells #[.string row, .string f.r] 9)))
          have N2 := hide (HasR.new wc 9 #[.string row, .string f.r])
          clear c0 c1 c2 c3 c4 T
          generalize app f (runs (es.take k) tab0) = σ at S2 HR
          go_loopw [70] (fun i w2 => ∃ (j : Nat), i = .int .i64 j ∧ j ≤ 2 ∧ Two W w2 mo' (k + 1) (k + 1) σ σ v7 l7 ∧ HasR w2 wc.heap.size 9 #[.string row, .string f.r]) (fun i _ => 2 - (intOf i).toNat)
          case atStart => exact ⟨0, rfl, by omega, S2.out, N2.out⟩
          case round =>
            clear S2 N2
            obtain ⟨j, rfl, hj, hT2, hN2⟩ := hrel
            by_cases hj2 : j < 2
            · obtain ⟨nm, q0, hs⟩ : ∃ nm : ByteArray, wr.cell? ⟨wc.heap.size, j, none⟩ = some (.string nm) ∧ nm.size ≤ 60 := by
                rcases (show j = 0 ∨ j = 1 by omega) with rfl | rfl
                · exact ⟨row, hN2.cell 0, hr⟩
                · exact ⟨f.r, hN2.cell 1, HBR.out.r⟩
              obtain ⟨x, ev, ec, hG1, hG2, hG3⟩ := gets_both W wr mo' (k + 1) (k + 1) σ v7 l7 name nm hT2 hn hs (by omega)
              have G1 := hide (hG1 wr (Below.refl _ _))
              have G2 := hide hG2
              have G3 := hide hG3
              have T2 := hide hT2
              have NN := hide hN2
              have hqc := fun w => cell_neq x x w
              rw [eqC_self x] at hqc
              simp only [Bool.not_true] at hqc
              clear hG1 hG2 hG3 hT2 hN2
              go_wp2_with (first
                | (go_at_call 16; (with_reducible refine G1.out.mono ?_); rintro y wA ⟨rfl, hA⟩; have BA := hide (hA.alloc hA.size (.cells #[.string x.t, .string x.r, .string x.s, .string x.v] 44)); have XA := hide (HasR.new wA 44 #[.string x.t, .string x.r, .string x.s, .string x.v]); clear hA)
                | (go_at_call 17; (with_reducible refine (G2.out _ BA.out).mono ?_); rintro y wB ⟨rfl, hB⟩; have BB := hide ((BA.out.trans (hB.mono BA.out.size)).alloc (BA.out.trans (hB.mono BA.out.size)).size (.cells #[.string x.t, .string x.r, .string x.s, .string x.v] 44)); have XB := hide ((XA.out.below hB XA.out.lt).alloc (.cells #[.string x.t, .string x.r, .string x.s, .string x.v] 44)); have XN := hide (HasR.new wB 44 #[.string x.t, .string x.r, .string x.s, .string x.v]); have EB := hide (T2.out.still BB.out).tabE; clear hB)
                | (go_at_call 11; (with_reducible refine (G3.out _ EB.out).mono ?_); rintro y wC ⟨rfl, hC⟩; have XC := XB.out.below hC XB.out.lt; have XD := XN.out.below hC XN.out.lt; have z0 : wC.cell? ⟨wA.heap.size, 0, none⟩ = some (.string x.t) := XC.cell 0; have z1 : wC.cell? ⟨wA.heap.size, 1, none⟩ = some (.string x.r) := XC.cell 1; have z2 : wC.cell? ⟨wA.heap.size, 2, none⟩ = some (.string x.s) := XC.cell 2; have z3 : wC.cell? ⟨wA.heap.size, 3, none⟩ = some (.string x.v) := XC.cell 3; have y0 : wC.cell? ⟨wB.heap.size, 0, none⟩ = some (.string x.t) := XD.cell 0; have y1 : wC.cell? ⟨wB.heap.size, 1, none⟩ = some (.string x.r) := XD.cell 1; have y2 : wC.cell? ⟨wB.heap.size, 2, none⟩ = some (.string x.s) := XD.cell 2; have y3 : wC.cell? ⟨wB.heap.size, 3, none⟩ = some (.string x.v) := XD.cell 3; have BC := hide (BB.out.trans (hC.mono BB.out.size)); clear hC XC XD))
              exact ⟨⟨j + 1, by go_num, by omega, T2.out.still BC.out, NN.out.below BC.out NN.out.lt⟩, by simp [intOf]; omega⟩
            · have T2 := hide hT2
              clear hT2 hN2
              go_wp2
              exact ⟨⟨k + 1, mo', v7, l7, by go_num, by omega, by rw [HR.out]; exact T2.out⟩, by simp [intOf]; omega⟩
    · go_wp2
      go_ret
      exact ⟨rfl, T.out.bel⟩
end Go.Proofs.YtedcbjefkhgiiabGreatDoor
