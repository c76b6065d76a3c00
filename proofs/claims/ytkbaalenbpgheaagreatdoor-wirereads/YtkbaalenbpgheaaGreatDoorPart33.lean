/- Texts of this proof, one behind the other. -/
import Derived.Laws.StructEq
import Derived.Deep.AppendLies
import Derived.Test.YtkbaalenbpgheaaGreatDoorPart32
/- Two rows of cells that are the same, held against each other by the law. -/
namespace Go.Proofs.YtkbaalenbpgheaaGreatDoor
open Go.RowKit Go.Sort
attribute [local go_sem ↓] Go.wp_at_zero Go.wp_at_succ
set_option linter.unusedSectionVars false
variable [Inhabited Cl]
theorem four_of {W : World} {blk : Nat} {d : Array Cl} {i : Nat} (h : HoldsK cellL 4 W blk 0 d) (hi : i < d.size) : W.cell? ⟨blk, i * 4, none⟩ = some (.string d[i]!.t) ∧ W.cell? ⟨blk, i * 4 + 1, none⟩ = some (.string d[i]!.r) ∧ W.cell? ⟨blk, i * 4 + 2, none⟩ = some (.string d[i]!.s) ∧ W.cell? ⟨blk, i * 4 + 3, none⟩ = some (.string d[i]!.v) := by
  refine ⟨?_, ?_, ?_, ?_⟩
  · have := (h.cell (i := i) (c := 0) hi (by omega)).1
    simpa [cellL] using this
  · have := (h.cell (i := i) (c := 1) hi (by omega)).1
    simpa [cellL] using this
  · have := (h.cell (i := i) (c := 2) hi (by omega)).1
    simpa [cellL] using this
  · have := (h.cell (i := i) (c := 3) hi (by omega)).1
    simpa [cellL] using this
theorem RowC.at {w : World} {base n cap k : Nat} {p : Option Addr} {l : List Cl} (h : RowC w base (.slice p n cap) l) (hk : k < l.length) : ∃ g, p = some ⟨g, 0, none⟩ ∧ g < w.heap.size ∧ l.length ≤ cap ∧ w.cell? ⟨g, k * 4, none⟩ = some (.string l[k]!.t) ∧ w.cell? ⟨g, k * 4 + 1, none⟩ = some (.string l[k]!.r) ∧ w.cell? ⟨g, k * 4 + 2, none⟩ = some (.string l[k]!.s) ∧ w.cell? ⟨g, k * 4 + 3, none⟩ = some (.string l[k]!.v) := by
  rcases h with ⟨_, rfl⟩ | ⟨g, cap', e, h1, h2, h3, h4, h5⟩
  · simp at hk
  · injection e with e1 e2 e3
    subst e1 e3
    obtain ⟨c0, c1, c2, c3⟩ := four_of h5 (i := k) (by rw [List.size_toArray]; exact hk)
    have e : l.toArray[k]! = l[k]! := by simp
    rw [e] at c0 c1 c2 c3
    exact ⟨g, rfl, h2, h3, c0, c1, c2, c3⟩
theorem RowC.slice {w : World} {base : Nat} {v : Value} {l : List Cl} (h : RowC w base v l) : ∃ p cap, v = .slice p l.length cap := by
  rcases h with ⟨rfl, rfl⟩ | ⟨g, cap, rfl, _⟩
  · exact ⟨_, _, rfl⟩
  · exact ⟨_, _, rfl⟩
theorem below_dn {B : Nat} {a w : World} (h : Below B a w) (n : Nat) : Below B a (w.drewN n) := h.trans ⟨rfl, rfl, rfl, Nat.le_refl _, fun _ _ => rfl⟩
end Go.Proofs.YtkbaalenbpgheaaGreatDoor

/- What was told is read: feed.Open of a source's own record; events held against each other; who is forgotten further on. -/
namespace Go.Proofs.YtkbaalenbpgheaaGreatDoor
open Go.RowKit Go.Sort
attribute [local go_sem ↓] Go.wp_at_zero Go.wp_at_succ
set_option linter.unusedSectionVars false
variable [Inhabited Cl] [Inhabited Ev]
theorem held35 : Tryz.prog.stoodInHeld 36 = false := by kernel_rfl
theorem fields35 : Tryz.prog.underlying 36 = some (.struct (Tryz.prog.fieldsOf 36)) := by kernel_rfl
theorem guard35 : Tryz.prog.eqGuardType Tryz.prog.depth 36 = false := by kernel_rfl
theorem ev_same (k : Int) (s t r v : ByteArray) (w : World) : (Op.equalIn 10000 36 (.agg #[.int .i64 k, .string s, .string t, .string r, .string v]) (.agg #[.int .i64 k, .string s, .string t, .string r, .string v])).run Tryz.prog w = .ok true w := by
  rw [run_equalIn_struct w 9999 36 _ _ fields35 held35]
  simp [Program.fieldsOf, Tryz.underlying36, Op.eqFields, go_sem, run_equalIn_int, run_equalIn_string, Tryz.underlying3, Tryz.underlying9]
theorem ev_neq (k : Int) (s t r v : ByteArray) (w : World) : (binOp .neq 36 (.agg #[.int .i64 k, .string s, .string t, .string r, .string v]) (.agg #[.int .i64 k, .string s, .string t, .string r, .string v])).run Tryz.prog w = .ok (.bool false) w := by
  rw [run_neq_struct, ev_same]; rfl
/-- A record of a key that is there, or an open one: what was told. -/
theorem open_held {B : Nat} {w : World} {sb fb vb : Nat} {mt mv : Option Nat} {v : Value} {nt nv : Nat} {sec : ByteArray} {σ : Kept} {τ : Tab} {rs : List Rec} (S : Src B w sb fb vb mt mv v nt nv sec σ τ rs) (T : Tabs w) {e : Ev} {r : Rec} {lost : Bool} (h : RecOf sec σ e r lost) (hf : Fit r) (hl : ¬ (e.k ≠ 3 ∧ lost = true)) :
    Calls Tryz.prog 22 #[.pointer (some ⟨vb, 0, none⟩), .agg #[.int .i64 (r.q : Int), .string r.s, .int .i64 (r.g : Int), .string r.p, .string r.d]] w fun x w' => x = .returned (.tuple #[.agg #[.int .i64 e.k, .string e.s, .string e.t, .string e.r, .string e.v], .nilIface]) ∧ Below w.heap.size w w' := by
  refine open_ok25 _ r e w h.right h.sub.symm h.gen.symm T.l (fun wx hb => T.m.below hb T.m.lt) (fun wx hb => ?_)
  by_cases hk : e.k = 3
  · have := unseal_open (.pointer (some ⟨vb, 0, none⟩)) r wx (h.gen.2 hk)
    rw [h.opn hk] at this
    rw [h.opn hk]
    exact this
  · have hlo : lost = false := by
      cases lost
      · rfl
      · exact absurd ⟨hk, rfl⟩ hl
    have ht := h.there hk hlo
    have hg : 1 ≤ r.g := Nat.pos_of_ne_zero (fun e0 => hk (h.gen.1 e0))
    exact unseal_there vb mv sec nv σ r (textB e) wx hf (S.still hb).keys hg (by rw [ht]) (by rw [ht]) (text_size h.right) (T.k.below hb T.k.lt) (h.sl hk)
/-- Of all others nothing. -/
theorem open_lost {B : Nat} {w : World} {sb fb vb : Nat} {mt mv : Option Nat} {v : Value} {nt nv : Nat} {sec : ByteArray} {σ : Kept} {τ : Tab} {rs : List Rec} (S : Src B w sb fb vb mt mv v nt nv sec σ τ rs) {e : Ev} {r : Rec} {lost : Bool} (h : RecOf sec σ e r lost) (hf : Fit r) (hk : e.k ≠ 3) (hl : lost = true) :
    Calls Tryz.prog 22 #[.pointer (some ⟨vb, 0, none⟩), .agg #[.int .i64 (r.q : Int), .string r.s, .int .i64 (r.g : Int), .string r.p, .string r.d]] w fun x w' => x = .returned (.tuple #[.agg #[.int .i64 0, .string ⟨#[]⟩, .string ⟨#[]⟩, .string ⟨#[]⟩, .string ⟨#[]⟩], .iface 56 (.int .i64 8)]) ∧ Below w.heap.size w w' := by
  obtain ⟨h1, h2⟩ := h.left hk hl
  have hg : 1 ≤ r.g := Nat.pos_of_ne_zero (fun e0 => hk (h.gen.1 e0))
  exact open_err _ r 8 ⟨#[]⟩ w (fun wx hb => unseal_lost vb mv sec nv σ r wx hf.s (S.still hb).keys hg h1 h2)
/-- Whichever of both: one answer. -/
theorem open_either {sec : ByteArray} {σ : Kept} {e : Ev} {r : Rec} {lost : Bool} (h : RecOf sec σ e r lost) (hf : Fit r) : ∃ (x : Ev) (er : Value), ((e.k ≠ 3 ∧ lost = true ∧ x = ⟨0, ⟨#[]⟩, ⟨#[]⟩, ⟨#[]⟩, ⟨#[]⟩⟩ ∧ er = .iface 56 (.int .i64 8)) ∨ (¬ (e.k ≠ 3 ∧ lost = true) ∧ x = e ∧ er = .nilIface)) ∧
    ∀ (B : Nat) (w : World) (sb fb vb : Nat) (mt mv : Option Nat) (v : Value) (nt nv : Nat) (τ : Tab) (rs : List Rec), Src B w sb fb vb mt mv v nt nv sec σ τ rs → Tabs w → Calls Tryz.prog 22 #[.pointer (some ⟨vb, 0, none⟩), .agg #[.int .i64 (r.q : Int), .string r.s, .int .i64 (r.g : Int), .string r.p, .string r.d]] w fun y w' => y = .returned (.tuple #[.agg #[.int .i64 x.k, .string x.s, .string x.t, .string x.r, .string x.v], er]) ∧ Below w.heap.size w w' := by
  by_cases hl : e.k ≠ 3 ∧ lost = true
  · exact ⟨_, _, .inl ⟨hl.1, hl.2, rfl, rfl⟩, fun B w sb fb vb mt mv v nt nv τ rs S _ => open_lost S h hf hl.1 hl.2⟩
  · exact ⟨e, .nilIface, .inr ⟨hl, rfl, rfl⟩, fun B w sb fb vb mt mv v nt nv τ rs S T => open_held S T h hf hl⟩
theorem evRow_of {w : World} {b : Nat} {v : Value} {es : List Ev} (h : w.ownsRow b 36 5 v es.length (evsL es)) : EvRow w v es := by
  rcases h.2 with ⟨e, e0⟩ | ⟨g, cap, cur, hv, hb, hg, a1, a2, a3, a4⟩
  · exact .inl ⟨⟨none, 0, e⟩, List.eq_nil_of_length_eq_zero e0⟩
  · refine .inr ⟨g, 0, cap, hv, a1, lt_of_block hg, fun j hj i u hu => ?_⟩
    have hi : i < 5 := (List.getElem?_eq_some_iff.1 hu).1
    have hj5 : j * 5 + i < es.length * 5 := by omega
    rw [Nat.zero_add, cell_of_row w g _ cur 36 (0, 0) hg, ← Array.getElem?_toList, ← List.getElem?_take_of_lt (j := es.length * 5) hj5, a4, evsL_at es j i hj hi, List.getD_eq_getElem?_getD, List.getElem?_eq_getElem hj]
    rw [getElem!_pos es j hj] at hu
    exact hu
theorem drop_at {es : List Ev} {m j : Nat} (h : m + j < es.length) : (es.drop m)[j]! = es[m + j]! := by
  rw [getElem!_pos es (m + j) h, getElem!_pos (es.drop m) j (by rw [List.length_drop]; omega), List.getElem_drop]
theorem EvRow.drop {w : World} {b off n cap : Nat} {es : List Ev} {m : Nat} {cap' : Nat} (h : EvRow w (.slice (some ⟨b, off, none⟩) n cap) es) (hm : m < es.length) (hc : es.length - m ≤ cap') : EvRow w (.slice (some ⟨b, off + m * 5, none⟩) (es.length - m) cap') (es.drop m) := by
  rcases h with ⟨_, rfl⟩ | ⟨b', off', cap2, hv, hc2, hb, hx⟩
  · simp at hm
  · simp only [Value.slice.injEq, Option.some.injEq, Addr.mk.injEq, and_true] at hv
    obtain ⟨⟨rfl, rfl⟩, _, _⟩ := hv
    refine .inr ⟨b, off + m * 5, cap', by rw [List.length_drop], by rw [List.length_drop]; exact hc, hb, fun j hj i u hu => ?_⟩
    rw [List.length_drop] at hj
    rw [drop_at (by omega)] at hu
    have := hx (m + j) (by omega) i u hu
    rw [← this]
    congr 2
    omega
theorem EvRow.tail {w : World} {b off cap : Nat} {es : List Ev} {m : Nat} (h : EvRow w (.slice (some ⟨b, off, none⟩) es.length cap) es) (hm : m ≤ es.length) (hc : es.length ≤ cap) : EvRow w (.slice (some ⟨b, off + m * 5, none⟩) (es.length - m) (cap - m)) (es.drop m) := by
  by_cases h0 : m < es.length
  · exact h.drop h0 (by omega)
  · have : m = es.length := by omega
    subst this
    exact .inl ⟨⟨_, _, by rw [Nat.sub_self]⟩, List.drop_length⟩
/-- A Gone of somebody. -/
def goneS (s : ByteArray) (x : Ev) : Bool := decide (x.k = 3) && decide (x.s = s)
theorem lostB_any (l : List Ev) (s : ByteArray) : l.any (goneS s) = lostB l s := rfl
end Go.Proofs.YtkbaalenbpgheaaGreatDoor

/- The laws' own done: a source to which events happened, those that were done, and its rows behind each. -/
namespace Go.Proofs.YtkbaalenbpgheaaGreatDoor
open Go.RowKit Go.Sort
attribute [local go_sem ↓] Go.wp_at_zero Go.wp_at_succ
set_option linter.unusedSectionVars false
variable [Inhabited Cl] [Inhabited Ev]
theorem hist_few {sec : ByteArray} : ∀ (es : List Ev) (s : Hst), (hist sec es s).ok.length ≤ s.ok.length + es.length
  | [], s => by show s.ok.length ≤ s.ok.length + 0; omega
  | e :: es, s => by
    have h := hist_few (sec := sec) es (hstep sec s e)
    have h2 : (hstep sec s e).ok.length ≤ s.ok.length + 1 := by
      unfold hstep
      split
      · simp
      · omega
    show (hist sec es (hstep sec s e)).ok.length ≤ _
    simp only [List.length_cons]
    omega
theorem getD_eq! {es : List Ev} {k : Nat} (h : k < es.length) : es.getD k ev0 = es[k]! := by
  rw [getElem!_pos es k h, List.getD_eq_getElem?_getD, List.getElem?_eq_getElem h]
  rfl
theorem Dn.start {w w1 : World} (hS : Src w.heap.size w1 (w.heap.size + 2) (w.heap.size + 1) w.heap.size none none (.slice none 0 0) 0 0 secB kept0 tab0 []) (hb : w.heap.size ≤ w1.heap.size) : Dn w.heap.size (w1.alloc (.cells #[.slice none 0 0] 45)) kept0 tab0 [] 0 [] (.slice none 0 0) (.slice (some ⟨w1.heap.size, 0, none⟩) 1 1) [.slice none 0 0] := by
  refine ⟨⟨_, _, _, hS.still ((Below.refl _ w1).alloc (Nat.le_refl _) _), (fun u hu g hg => by simp at hu; subst hu; cases hg)⟩, World.ownsRow_nil _ _ _ _, ?_, (fun u hu g hg => by simp at hu; subst hu; cases hg), fun j hj => ?_⟩
  · exact World.ownsRow_lit w1 #[.slice none 0 0] 1 hb (by unfold maxLen; omega) rfl
  · have : j = 0 := by simpa using hj
    subst this
    exact ⟨[], inOrd0, Nat.zero_le _, .inl ⟨rfl, rfl⟩⟩
set_option maxRecDepth 100000 in
set_option maxHeartbeats 8000000 in
theorem done_any (v : Value) (es : List Ev) (w : World) (T : Tabs w) (hv : EvRow w v es) (h60 : es.length ≤ 60) (hbr : ∀ e ∈ es, Brief e) :
    Calls Tryz.prog 9 #[v] w fun x w' => ∃ vok vrows vals, x = .returned (.tuple #[.pointer (some ⟨w.heap.size + 2, 0, none⟩), vok, vrows]) ∧ Dn w.heap.size w' (hist secB es hst0).σ (hist secB es hst0).τ (hist secB es hst0).rs (hist secB es hst0).ok.length (hist secB es hst0).ok vok vrows vals ∧ vals.length = (hist secB es hst0).ok.length + 1 ∧ Below w.heap.size w w' := by
  have HV := hide hv
  have TK := T.k.lt
  have TT := hide T
  have BR := hide hbr
  have N := hide (srcNew_ok secB w rfl)
  obtain ⟨ao, cap, rfl⟩ := hv.slice
  have hne := nilNe
  have hps := ptrS_nil
  obtain ⟨i0, hi, hz0, hz1, hz2⟩ := info_parts info35
  obtain ⟨i1, gi, gz0, gz1, gz2⟩ := info_parts info57
  clear hv T hbr
  go_enter Tryz.func9, Tryz.ntmps9
  go_wp2_with (
    go_at_call 47; (refine N.out.mono ?_); rintro x w1 ⟨rfl, hS1, hb1⟩
    have D1 := hide (Dn.start hS1 hb1.size)
    have B1 := hide (hb1.alloc hb1.size (.cells #[.slice none 0 0] 45))
    clear hS1 hb1)
  go_loopw [7, 8, 9] (fun a b i wr => ∃ (vok vrows : Value) (k : Nat) (vals : List Value), vok = a ∧ vrows = b ∧ i = .int .i64 k ∧ k ≤ es.length ∧ Dn w.heap.size wr (hist secB (es.take k) hst0).σ (hist secB (es.take k) hst0).τ (hist secB (es.take k) hst0).rs (hist secB (es.take k) hst0).ok.length (hist secB (es.take k) hst0).ok vok vrows vals ∧ vals.length = (hist secB (es.take k) hst0).ok.length + 1 ∧ Below w.heap.size w wr) (fun _ _ i _ => es.length - (intOf i).toNat)
  case atStart => exact ⟨_, _, 0, [.slice none 0 0], rfl, rfl, rfl, Nat.zero_le _, by rw [List.take_zero]; exact D1.out, rfl, B1.out⟩
  case round =>
    clear D1 B1 N hps
    obtain ⟨vok, vrows, k, vals, rfl, rfl, rfl, hk, hD, hvl, hb⟩ := hrel
    have D := hide hD
    have BB := hide hb
    clear hD hb
    by_cases hlt : k < es.length
    · have HS := hide (hist_take (sec := secB) (s := hst0) hlt)
      rw [getD_eq! hlt] at HS
      have hfew := hist_few (sec := secB) (es.take k) hst0
      have hDid := hide (Did.hist (sec := secB) (es.take k) Did.none)
      rw [List.length_take] at hfew
      have hf0 : hst0.ok.length = 0 := rfl
      obtain ⟨b, off, rfl, hcap, hc⟩ := HV.out.spot hlt
      have hbrf : Brief es[k]! := BR.out _ (by rw [getElem!_pos es k hlt]; exact List.getElem_mem hlt)
      have HC := hide hc
      have HBR := hide hbrf
      clear hc hbrf
      generalize es[k]! = e at HC HBR HS
      generalize hist secB (es.take k) hst0 = st at D HS hfew hDid hvl
      obtain ⟨mt, mv, vv, hS, hoff⟩ := D.out.src
      have S := hide hS
      have OF := hide hoff
      have hrl := hide hDid.out.recs.1
      clear hS hoff
      obtain ⟨c0, c1, c2, c3, c4, hlb⟩ := evs_at BB.out (Nat.le_refl _) HC.out
      cases hd : doesB st.σ st.τ e
      · have D6 := hide (do_no _ _ _ _ _ _ _ _ _ _ _ _ _ _ e S.out HBR.out (by decide) (by rw [hrl.out]; omega) (by omega) (by omega) (TT.out.below BB.out TK) (by omega) hd)
        have hen := errEq
        rw [hstep_no hd] at HS
        go_wp2_with (
          go_at_call 10; (with_reducible refine D6.out.mono ?_); rintro x w7 ⟨⟨z, rfl⟩, hS7, hb7⟩
          have B7 := hide (hb7.alloc hb7.size (.cells #[.int .i64 0, .string ⟨#[]⟩, .int .i64 0, .string ⟨#[]⟩, .string ⟨#[]⟩] 30))
          clear hS7 hb7)
        exact ⟨⟨_, _, k + 1, vals, rfl, rfl, by go_num, by omega, by rw [HS.out]; exact D.out.still B7.out, by rw [HS.out]; exact hvl, BB.out.trans (B7.out.mono BB.out.size)⟩, by simp [intOf]; omega⟩
      · have D6 := hide (do_yes _ _ _ _ _ _ _ _ _ _ _ _ _ _ e S.out HBR.out (by decide) (by rw [hrl.out]; omega) (by omega) (by omega) (TT.out.below BB.out TK) (by omega) hd)
        have hen := nilEq
        rw [hstep_yes hd] at HS
        go_upto_region 11 with (
          go_at_call 10; (with_reducible refine D6.out.mono ?_); rintro x w7 ⟨Q, hQ, rfl, ⟨mt7, m7, v7, hS7, hN7⟩, hs7, hb7⟩
          have Z := (Below.refl _ w7).alloc (Nat.le_refl _) (.cells #[.int .i64 (Q.q : Int), .string Q.s, .int .i64 (Q.g : Int), .string Q.p, .string Q.d] 30)
          have D7 := hide ((Dn.do D.out S.out OF.out hS7 hN7 hs7).still Z)
          have B7 := hide ((BB.out.trans hb7).trans (Z.mono (BB.out.trans hb7).size))
          have HQ := hide hQ
          clear hQ hS7 hN7 hs7 hb7 Z)
        clear c0 c1 c2 c3 c4 hlb D6
        generalize w7.alloc (.cells #[.int .i64 (Q.q : Int), .string Q.s, .int .i64 (Q.g : Int), .string Q.p, .string Q.d] 30) = W1 at D7 B7 ⊢
        obtain ⟨c0, c1, c2, c3, c4, hlb⟩ := evs_at B7.out (Nat.le_refl _) HC.out
        have hok := D7.out.noted
        have hsz := B7.out.size
        go_upto_region 12 with (
          at_builtin; go_loud (refine wpList_append_lies _ rfl _ _ 22 rfl w.heap.size 36 i0 _ 5 72 Tryz.underlying22 hi hz0 hz1 hz2 rfl (by omega) vok st.ok.length (evsL st.ok) rfl (hok.alloc _) ⟨W1.heap.size, 0, none⟩ 1 1 (evL e) rfl rfl (World.news_of_block (cs := #[.int .i64 e.k, .string e.s, .string e.t, .string e.r, .string e.v]) (t := 36) (fr := (0, 0)) (heap_alloc_new W1 _)) (by simp [Value.oneCell', evL]) (by omega) (by unfold maxLen; omega) (by omega) (by simp; omega) (W1.heap.size + 1) (by simp) ?_); intro g3 cp3 w3 hown hgrow hat hlt3
          have hA := (Below.refl _ W1).alloc (Nat.le_refl _) (.cells #[.int .i64 e.k, .string e.s, .string e.t, .string e.r, .string e.v] 36)
          have D3 := hide (Dn.note (D7.out.still hA) hvl rfl hown hgrow (hat.imp id (fun e1 => by rw [e1]; simp)))
          have B3 := hide ((B7.out.trans (hA.mono hsz)).trans ((Stirred.of_grownO hgrow).below (B7.out.trans (hA.mono hsz)).size (fun j hj => (hok.lt j (by simpa using hj)).1)))
          clear hown hgrow hat hlt3 hA)
        clear c0 c1 c2 c3 c4 hlb D7 B7 hok hsz
        obtain ⟨mt3, mv3, v3, hS3, hoff3⟩ := D3.out.src
        have C3 := hide (srcCells_any _ w3 _ _ _ _ _ _ _ _ _ _ _ _ hS3 (by omega))
        have hrw := D3.out.rows
        have ht := hide hDid.out.tau
        clear hS3 hoff3
        go_wp2_with (first
          | (go_at_call 16; (with_reducible refine C3.out.mono ?_); rintro x w4 ⟨u, ds, rfl, ho, hl, hr, hb⟩
             obtain ⟨pu, cu, rfl⟩ := hr.slice
             have O4 := hide ho
             have R4 := hide hr
             have B4 := hide hb
             have hrw4 := ownsRow_below hrw hb
             have hs4 := hb.size
             have hs3 := B3.out.size
             clear ho hr hb)
          | (at_builtin; refine wpList_append_lies _ rfl _ _ 26 rfl w.heap.size 45 i1 _ 1 24 Tryz.underlying26 gi gz0 gz1 gz2 rfl (by omega) vrows vals.length vals rfl (hrw4.alloc _) ⟨w4.heap.size, 0, none⟩ 1 1 [.slice pu ds.length cu] rfl rfl (World.news_of_block (cs := #[.slice pu ds.length cu]) (t := 45) (fr := (0, 0)) (heap_alloc_new w4 _)) (by simp [Value.oneCell']) (by omega) (by unfold maxLen; omega) (by omega) (by simp; omega) (w4.heap.size + 1) (by simp) ?_; intro g5 cp5 w5 hown hgrow hat hlt5
             have hA := B4.out.alloc B4.out.size (.cells #[.slice pu ds.length cu] 45)
             have D5 := hide (Dn.row D3.out hA (by simp; omega) rfl (by rw [runs_snoc, ← ht.out]; exact O4.out) (by simp; omega) (R4.out.below ((Below.refl _ w4).alloc (Nat.le_refl _) _) (Nat.le_refl _)) hown hgrow (hat.imp id (fun e1 => by rw [e1]; simp)))
             have B5 := hide ((B3.out.trans (hA.mono hs3)).trans ((Stirred.of_grownO hgrow).below (B3.out.trans (hA.mono hs3)).size (fun j hj => (hrw.lt j (by simpa using hj)).1)))
             clear hown hgrow hat hlt5 hA))
        exact ⟨⟨_, _, k + 1, vals ++ [.slice pu ds.length cu], rfl, rfl, by go_num, by omega, by rw [HS.out]; simp only [List.length_append, List.length_singleton]; rw [← HQ.out]; have h5 := D5.out; rw [hvl] at h5; exact h5, by rw [HS.out]; simp; omega, B5.out⟩, by simp [intOf]; omega⟩
    · have ek : k = es.length := by omega
      subst ek
      rw [List.take_length] at D hvl
      go_wp2
      go_ret3
      exact ⟨_, _, vals, rfl, D.out, hvl, BB.out⟩
end Go.Proofs.YtkbaalenbpgheaaGreatDoor
