/- Texts of this proof, one behind the other. -/
import Derived.BigQuiet
import Derived.Deep.DeepCutAuto
import Derived.Test.YtbmiheebhinbpaaGreatDoorPart33
/- Are records one behind the other? The program's Whole, of records that are. -/
namespace Go.Proofs.YtbmiheebhinbpaaGreatDoor
open Go.RowKit
attribute [local go_sem ↓] Go.wp_at_zero Go.wp_at_succ
theorem HasR.one {w : World} {b : Nat} {t : TypeId} {a0 : Value} (h : HasR w b t #[a0]) (v0 : Value) : HasR (w.setCell ⟨b, 0, none⟩ v0) b t #[v0] := h.set 0 v0
set_option maxRecDepth 100000 in
set_option maxHeartbeats 2000000 in
theorem strays_any (r : Rec) (bf ba bm k : Nat) (mark : ByteArray) (W : World) (hF : HasR W bf 3 #[.int .i64 1]) (hA : HasR W ba 3 #[.int .i64 (k : Int)]) (hM : HasR W bm 9 #[.string mark]) (hab : ba ≠ bf) (hq : r.q = k + 1) (hp : r.p = mark) (hk : k < 1000) (hf : Fit r) (hK : TabK W) :
    Calls Tryz.prog 61 #[.agg #[.int .i64 (r.q : Int), .string r.s, .int .i64 (r.g : Int), .string r.p, .string r.d], .pointer (some ⟨bf, 0, none⟩), .pointer (some ⟨ba, 0, none⟩), .pointer (some ⟨bm, 0, none⟩)] W fun x w' => x = .returned (.bool false) ∧ HasR w' bf 3 #[.int .i64 1] ∧ HasR w' ba 3 #[.int .i64 ((k + 1 : Nat) : Int)] ∧ HasR w' bm 9 #[.string (markR r)] ∧ Stirred [ba, bm] W w' := by
  have bel : Below W.heap.size W (W.alloc (.cells #[.int .i64 (r.q : Int), .string r.s, .int .i64 (r.g : Int), .string r.p, .string r.d] 44)) := (Below.refl _ W).alloc (Nat.le_refl _) _
  have E0 := hide (HasR.new W 44 (recA r))
  have MK := hide (fun wx (hb : Below W.heap.size W wx) => markRec_any r wx hf (hK.below hb hK.lt))
  have f0 : W.cell? ⟨bf, 0, none⟩ = some (.int .i64 1) := hF.cell 0
  have a0 : W.cell? ⟨ba, 0, none⟩ = some (.int .i64 (k : Int)) := hA.cell 0
  have m0 : W.cell? ⟨bm, 0, none⟩ = some (.string mark) := hM.cell 0
  have lf := hF.lt
  have la := hA.lt
  have lm := hM.lt
  have ham : ba ≠ bm := hA.apartT hM (by decide)
  have hfm : bf ≠ bm := hF.apartT hM (by decide)
  have HF := hide hF
  have HA := hide hA
  have HM := hide hM
  have BL := hide bel
  have hqz : (r.q : Int) = (k : Int) + 1 := by omega
  unfold recA at E0
  rw [hqz, hp] at E0 MK BL ⊢
  clear hF hA hM bel hK hf hp hq
  go_enter Tryz.func61, Tryz.ntmps61
  go_upto_region 3 with fail
  generalize W.alloc (.cells #[.int .i64 ((k : Int) + 1), .string r.s, .int .i64 (r.g : Int), .string mark, .string r.d] 44) = W1 at E0 BL ⊢
  have e0 : W1.cell? ⟨W.heap.size, 0, none⟩ = some (.int .i64 ((k : Int) + 1)) := E0.out.cell 0
  have e1 : W1.cell? ⟨W.heap.size, 1, none⟩ = some (.string r.s) := E0.out.cell 1
  have e2 : W1.cell? ⟨W.heap.size, 2, none⟩ = some (.int .i64 (r.g : Int)) := E0.out.cell 2
  have e3 : W1.cell? ⟨W.heap.size, 3, none⟩ = some (.string mark) := E0.out.cell 3
  have e4 : W1.cell? ⟨W.heap.size, 4, none⟩ = some (.string r.d) := E0.out.cell 4
  have a1 : W1.cell? ⟨ba, 0, none⟩ = some (.int .i64 (k : Int)) := (BL.out.cell (p := ⟨ba, 0, none⟩) la).trans a0
  have hwr : IntKind.i64.wrap ((k : Int) + 1) = (k : Int) + 1 := by rw [IntKind.wrap_i64]; omega
  clear f0 a0 m0
  go_region_with ((go_at_call 47; (with_reducible refine (MK.out _ BL.out.drew).mono ?_); rintro x w2 ⟨rfl, hb2⟩; have B2 := hide (BL.out.drew.trans (hb2.mono BL.out.drew.size)); have F2 := hide (HF.out.below B2.out lf); have A2 := hide (HA.out.below B2.out la); have M2 := hide (HM.out.below B2.out lm); have x0 : w2.cell? ⟨ba, 0, none⟩ = some (.int .i64 (k : Int)) := A2.out.cell 0; have x1 : w2.frozen? ⟨ba, 0, none⟩ = false := A2.out.free 0; have x2 : w2.cell? ⟨bm, 0, none⟩ = some (.string mark) := M2.out.cell 0; have x3 : w2.frozen? ⟨bm, 0, none⟩ = false := M2.out.free 0; clear hb2))
  all_goals
    go_wp2
    go_ret
    rw [show (((k + 1 : Nat)) : Int) = (k : Int) + 1 by omega]
    first | rw [hwr] | skip
    have s1 : Stirred [ba] w2 (w2.setCell ⟨ba, 0, none⟩ (.int .i64 ((k : Int) + 1))) := Stirred.setCell w2 ⟨ba, 0, none⟩ _
    have s2 : Stirred [bm] (w2.setCell ⟨ba, 0, none⟩ (.int .i64 ((k : Int) + 1))) ((w2.setCell ⟨ba, 0, none⟩ (.int .i64 ((k : Int) + 1))).setCell ⟨bm, 0, none⟩ (.string (markR r))) := Stirred.setCell _ ⟨bm, 0, none⟩ _
    refine ⟨rfl, (F2.out.turned s1 (by simp; exact fun e => hab e.symm)).turned s2 (by simp; exact hfm), (A2.out.one _).turned s2 (by simp; exact ham), (M2.out.turned s1 (by simp; exact fun e => ham e.symm)).one _, ?_⟩
    exact ((Stirred.of_below B2.out [ba, bm]).andThen s1 (fun j hj => .inl (by simp at hj; simp [hj]))).andThen s2 (fun j hj => .inl (by simp at hj; simp [hj]))
set_option maxRecDepth 100000 in
set_option maxHeartbeats 2000000 in
theorem strayIdx (p : Option Addr) (c : Nat) (rs : List Rec) (base bf ba bm : Nat) (W : World) (hr : W.ownsRow base 44 5 (.slice p rs.length c) rs.length (recsL rs)) (hl : rs.length < 1000) (hF : HasR W bf 3 #[.int .i64 1]) (hA : HasR W ba 3 #[.int .i64 0]) (hM : HasR W bm 9 #[.string noneB]) (hab : ba ≠ bf) (hfit : ∀ r ∈ rs, Fit r) (hq : ∀ k, k < rs.length → (rs.getD k recZ).q = k + 1 ∧ (rs.getD k recZ).p = headR (rs.take k)) (hK : TabK W) (h3 : 3 < ba ∧ 3 < bm) :
    Calls Tryz.prog 62 #[.slice p rs.length c, .func (.func 61) #[] #[.pointer (some ⟨bf, 0, none⟩), .pointer (some ⟨ba, 0, none⟩), .pointer (some ⟨bm, 0, none⟩)]] W fun x w' => x = .returned (.int .i64 (-1)) ∧ Stirred [ba, bm] W w' := by
  have eg : ∀ args w, (callFunc 61 args).run Tryz.prog w = .ok (.enter 61 args) w := enters_of Tryz.func61 (by kernel_rfl) rfl
  have HF := hide hF
  have HA := hide hA
  have HM := hide hM
  have HR := hide hr
  have HQ := hide hq
  have HFI := hide hfit
  have HK := hide (fun wx (t : Stirred [ba, bm] W wx) => (show TabK wx from fun i hi => (t.cell (p := ⟨3, i, none⟩) hK.lt (by simp; omega)).trans (hK i hi)))
  have nr : ∀ g, (Value.slice p rs.length c).ownBlock = some g → g ∉ [ba, bm] := fun g hg hm => by
    rcases hr.2 with ⟨e, _⟩ | ⟨g', cap, cur, e, hb, hh, _⟩
    · rw [e] at hg; cases hg
    · rw [e] at hg
      have hg1 : some g' = some g := hg
      simp only [Option.some.injEq] at hg1
      subst hg1
      have hx : HasR W g' 44 cur := hh
      simp at hm
      rcases hm with e1 | e1
      · exact hx.apartT hA (by decide) e1
      · exact hx.apartT hM (by decide) e1
  have NR := hide nr
  clear hF hA hM hr hq hfit hK nr
  go_enter Tryz.func62, Tryz.ntmps62
  go_wp2
  go_loopw [8] (fun i wr => ∃ k : Nat, i = .int .i64 k ∧ k ≤ rs.length ∧ HasR wr bf 3 #[.int .i64 1] ∧ HasR wr ba 3 #[.int .i64 (k : Int)] ∧ HasR wr bm 9 #[.string (headR (rs.take k))] ∧ Stirred [ba, bm] W wr) (fun i _ => rs.length - (intOf i).toNat)
  case atStart => exact ⟨0, rfl, Nat.zero_le _, HF.out, HA.out, HM.out, Stirred.refl _ _⟩
  case round =>
    obtain ⟨k, rfl, hk, hF, hA, hM, hst⟩ := hrel
    have ST := hide hst
    by_cases hlt : k < rs.length
    · obtain ⟨q1, q2⟩ := HQ.out k hlt
      have hfr : Fit (rs.getD k recZ) := HFI.out _ (by rw [List.getD_eq_getElem?_getD, List.getElem?_eq_getElem hlt]; exact List.getElem_mem hlt)
      have ST1 := hide (strays_any (rs.getD k recZ) bf ba bm k _ wr hF hA hM hab q1 q2 (by omega) hfr (HK.out wr hst))
      have hh : headR (rs.take (k + 1)) = markR (rs.getD k recZ) := by
        have hne : ¬ rs.take (k + 1) = [] := fun e => by
          have := congrArg List.length e
          rw [List.length_take, List.length_nil, Nat.min_eq_left (by omega)] at this
          omega
        unfold headR
        rw [if_neg hne, List.length_take, Nat.min_eq_left (by omega), List.getD_eq_getElem?_getD, List.getD_eq_getElem?_getD, List.getElem?_take_of_lt (by omega)]
        rfl
      have HH := hide hh
      obtain ⟨g, hp, hg, hcap, c0, c1, c2, c3, c4⟩ : ∃ g, p = some ⟨g, 0, none⟩ ∧ g < wr.heap.size ∧ rs.length ≤ c ∧ wr.cell? ⟨g, k * 5, none⟩ = some (.int .i64 ((rs.getD k recZ).q : Int)) ∧ wr.cell? ⟨g, k * 5 + 1, none⟩ = some (.string (rs.getD k recZ).s) ∧ wr.cell? ⟨g, k * 5 + 2, none⟩ = some (.int .i64 ((rs.getD k recZ).g : Int)) ∧ wr.cell? ⟨g, k * 5 + 3, none⟩ = some (.string (rs.getD k recZ).p) ∧ wr.cell? ⟨g, k * 5 + 4, none⟩ = some (.string (rs.getD k recZ).d) := by
        rcases HR.out.2 with ⟨_, e0⟩ | ⟨g, cap, cur, hv, hb, hg, a1, a2, a3, a4⟩
        · omega
        · simp only [Value.slice.injEq] at hv
          have hgl : g < W.heap.size := lt_of_block hg
          have hg2 : wr.heap[g]? = some (.cells cur 44 (0, 0)) := (hst.block g hgl (NR.out g (by rw [hv.1]; rfl))).trans hg
          have at5 : ∀ i, i < 5 → ∀ u, (recL (rs.getD k recZ))[i]? = some u → wr.cell? ⟨g, k * 5 + i, none⟩ = some u := fun i hi u hu => by
            have hj5 : k * 5 + i < rs.length * 5 := by omega
            rw [cell_of_row wr g _ cur 44 (0, 0) hg2, ← Array.getElem?_toList, ← List.getElem?_take_of_lt (j := rs.length * 5) hj5, a4, recsL_at rs k i hlt hi]
            exact hu
          exact ⟨g, hv.1, Nat.lt_of_lt_of_le hgl hst.size, by rw [hv.2.2]; exact a1, at5 0 (by omega) _ rfl, at5 1 (by omega) _ rfl, at5 2 (by omega) _ rfl, at5 3 (by omega) _ rfl, at5 4 (by omega) _ rfl⟩
      subst hp
      generalize rs.getD k recZ = r at ST1 HH c0 c1 c2 c3 c4
      clear hF hA hM hst q1 q2 hfr hh
      go_wp2_with (
        go_at_fn 61; (with_reducible refine ST1.out.mono ?_); rintro x w2 ⟨rfl, hF2, hA2, hM2, hs2⟩
        have F2 := hide hF2
        have A2 := hide hA2
        have M2 := hide hM2
        have S2 := hide (ST.out.andThen hs2 (fun j hj => .inl hj))
        clear hF2 hA2 hM2 hs2)
      exact ⟨⟨k + 1, by go_num, by omega, F2.out, A2.out, by rw [HH.out]; exact M2.out, S2.out⟩, by simp [intOf]; omega⟩
    · clear hF hA hM hst
      go_wp2
      go_ret
      exact ⟨rfl, ST.out⟩
set_option maxRecDepth 100000 in
set_option maxHeartbeats 1000000 in
/-- Records that are one behind the other are whole. -/
theorem whole_any (v : Value) (rs : List Rec) (base : Nat) (w : World) (hr : w.ownsRow base 44 5 v rs.length (recsL rs)) (hl : rs.length < 1000) (hfit : ∀ r ∈ rs, Fit r) (hq : ∀ k, k < rs.length → (rs.getD k recZ).q = k + 1 ∧ (rs.getD k recZ).p = headR (rs.take k)) (hK : TabK w) :
    Calls Tryz.prog 16 #[v, .int .i64 1, .string ⟨#[0, 0, 0, 0, 0, 0, 0, 0, 0, 0, 0, 0, 0, 0, 0, 0]⟩] w fun x w' => x = .returned (.tuple #[.int .i64 0, .bool true]) ∧ Below w.heap.size w w' := by
  obtain ⟨p, c, rfl⟩ : ∃ p c, v = .slice p rs.length c := by
    rcases hr.2 with ⟨e, e0⟩ | ⟨g, cap, cur, hv, _⟩
    · exact ⟨_, _, by rw [e, e0]⟩
    · exact ⟨_, _, hv⟩
  have h3 := hK.lt
  have bel : Below w.heap.size w (((w.alloc (.cells #[.int .i64 1] 3)).alloc (.cells #[.int .i64 0] 3)).alloc (.cells #[.string noneB] 9)) := (((Below.refl _ w).alloc (Nat.le_refl _) _).alloc (by simp) _).alloc (by simp; omega) _
  have x1 := ((HasR.new w 3 #[.int .i64 1]).alloc (.cells #[.int .i64 0] 3)).alloc (.cells #[.string noneB] 9)
  have x2 := (HasR.new (w.alloc (.cells #[.int .i64 1] 3)) 3 #[.int .i64 0]).alloc (.cells #[.string noneB] 9)
  have x3 := HasR.new ((w.alloc (.cells #[.int .i64 1] 3)).alloc (.cells #[.int .i64 0] 3)) 9 #[.string noneB]
  rw [World.size_alloc] at x2
  rw [World.size_alloc, World.size_alloc] at x3
  have hr2 := ((hr.alloc (.cells #[.int .i64 1] 3)).alloc (.cells #[.int .i64 0] 3)).alloc (.cells #[.string noneB] 9)
  have I := hide (strayIdx p c rs base w.heap.size (w.heap.size + 1) (w.heap.size + 2) _ hr2 hl x1 x2 x3 (by omega) hfit hq (hK.below bel h3) ⟨by omega, by omega⟩)
  have BL := hide bel
  unfold noneB at I BL
  clear hr hr2 x1 x2 x3 bel hK hq hfit
  go_enter Tryz.func16, Tryz.ntmps16
  go_wp2_with (
    go_at_call 62; (with_reducible refine I.out.mono ?_); rintro x w2 ⟨rfl, hs⟩
    have B2 := hide (BL.out.trans (hs.below BL.out.size (fun j hj => by simp at hj; omega)))
    clear hs)
  go_ret2
  exact ⟨rfl, B2.out⟩
end Go.Proofs.YtbmiheebhinbpaaGreatDoor

/- What was told is read: the law's own walk. -/
namespace Go.Proofs.YtbmiheebhinbpaaGreatDoor
open Go.RowKit Go.Sort
attribute [local go_sem ↓] Go.wp_at_zero Go.wp_at_succ
set_option linter.unusedSectionVars false
variable [Inhabited Cl] [Inhabited Ev]
/-- What the loop has: the place, the box of what was done, the source, its records. -/
structure Fb (w0 w : World) (B : Nat) (st : Hst) (I k bo : Nat) (vok vrows : Value) (vals : List Value) (base : Nat) (vf : Value) : Prop where
  i : HasR w I 3 #[.int .i64 k]
  box : HasR w bo 22 #[vok]
  dn : Dn B w st.σ st.τ st.rs st.ok.length st.ok vok vrows vals
  fd : w.ownsRow base 44 5 vf st.ok.length (recsL st.rs)
  bel : Below w0.heap.size w0 w
theorem Fb.still {w0 w w' : World} {B : Nat} {st : Hst} {I k bo : Nat} {vok vrows : Value} {vals : List Value} {base : Nat} {vf : Value} (h : Fb w0 w B st I k bo vok vrows vals base vf) (b : Below w.heap.size w w') : Fb w0 w' B st I k bo vok vrows vals base vf :=
  ⟨h.i.below b h.i.lt, h.box.below b h.box.lt, h.dn.still b, ownsRow_below h.fd b, h.bel.trans (b.mono h.bel.size)⟩
theorem Fb.fin {w0 w w' : World} {B : Nat} {st : Hst} {I k bo : Nat} {vok vrows : Value} {vals : List Value} {base : Nat} {vf : Value} (h : Fb w0 w B st I k bo vok vrows vals base vf) (w1 : World) (h1 : Fb w0 w1 B st I k bo vok vrows vals base vf) (b : Below w1.heap.size w1 w') (hk : k < st.ok.length) :
    (∃ I' k' : Nat, k' ≤ st.ok.length ∧ Value.pointer (some ⟨w'.heap.size, 0, none⟩) = Value.pointer (some ⟨I', 0, none⟩) ∧ Fb w0 (w'.alloc (.cells #[.int .i64 ((k : Int) + 1)] 3)) B st I' k' bo vok vrows vals base vf) ∧
      st.ok.length - ptrInt (.pointer (some ⟨w'.heap.size, 0, none⟩)) (w'.alloc (.cells #[.int .i64 ((k : Int) + 1)] 3)) < st.ok.length - ptrInt (.pointer (some ⟨I, 0, none⟩)) w := by
  have s := h1.still (b.alloc b.size (.cells #[.int .i64 ((k : Int) + 1)] 3))
  have hs : Fb w0 (w'.alloc (.cells #[.int .i64 ((k : Int) + 1)] 3)) B st w'.heap.size (k + 1) bo vok vrows vals base vf := ⟨HasR.new w' 3 _, s.box, s.dn, s.fd, s.bel⟩
  refine ⟨⟨w'.heap.size, k + 1, hk, rfl, hs⟩, ?_⟩
  rw [ptrInt_of hs.i, ptrInt_of h.i]
  omega
theorem block_of {w : World} {b : Nat} {t : TypeId} {n len : Nat} {p : Option Addr} {cap m : Nat} {l : List Value} (h : w.ownsRow b t n (.slice p m cap) len l) (hl : 0 < len) : ∃ g, p = some ⟨g, 0, none⟩ ∧ m = len := by
  obtain ⟨g, cap', e, _⟩ := h.form hl
  simp only [Value.slice.injEq] at e
  exact ⟨g, e.1, e.2.1⟩
theorem evs_c {w : World} {base g cap : Nat} {es : List Ev} {k : Nat} (h : w.ownsRow base 35 5 (.slice (some ⟨g, 0, none⟩) es.length cap) es.length (evsL es)) (hk : k < es.length) : w.cell? ⟨g, k * 5, none⟩ = some (.int .i64 (es.getD k ev0).k) ∧ w.cell? ⟨g, k * 5 + 1, none⟩ = some (.string (es.getD k ev0).s) ∧ w.cell? ⟨g, k * 5 + 2, none⟩ = some (.string (es.getD k ev0).t) ∧ w.cell? ⟨g, k * 5 + 3, none⟩ = some (.string (es.getD k ev0).r) ∧ w.cell? ⟨g, k * 5 + 4, none⟩ = some (.string (es.getD k ev0).v) ∧ g < w.heap.size := by
  have c : ∀ i, i < 5 → w.cell? ⟨g, k * 5 + i, none⟩ = (evL (es.getD k ev0))[i]? := fun i hi => (h.cellAt (k * 5 + i) (by omega)).trans (evsL_at es k i hk hi)
  have c0 : w.cell? ⟨g, k * 5, none⟩ = some (.int .i64 (es.getD k ev0).k) := c 0 (by omega)
  exact ⟨c0, c 1 (by omega), c 2 (by omega), c 3 (by omega), c 4 (by omega), block_lt_of_cell c0⟩
theorem recs_c {w : World} {base g cap m : Nat} {rs : List Rec} {k : Nat} (h : w.ownsRow base 44 5 (.slice (some ⟨g, 0, none⟩) m cap) m (recsL rs)) (hm : rs.length = m) (hk : k < m) : w.cell? ⟨g, k * 5, none⟩ = some (.int .i64 ((rs.getD k recZ).q : Int)) ∧ w.cell? ⟨g, k * 5 + 1, none⟩ = some (.string (rs.getD k recZ).s) ∧ w.cell? ⟨g, k * 5 + 2, none⟩ = some (.int .i64 ((rs.getD k recZ).g : Int)) ∧ w.cell? ⟨g, k * 5 + 3, none⟩ = some (.string (rs.getD k recZ).p) ∧ w.cell? ⟨g, k * 5 + 4, none⟩ = some (.string (rs.getD k recZ).d) ∧ g < w.heap.size := by
  subst hm
  have c : ∀ i, i < 5 → w.cell? ⟨g, k * 5 + i, none⟩ = (recL (rs.getD k recZ))[i]? := fun i hi => (h.cellAt (k * 5 + i) (by omega)).trans (recsL_at rs k i hk hi)
  have c0 : w.cell? ⟨g, k * 5, none⟩ = some (.int .i64 ((rs.getD k recZ).q : Int)) := c 0 (by omega)
  exact ⟨c0, c 1 (by omega), c 2 (by omega), c 3 (by omega), c 4 (by omega), block_lt_of_cell c0⟩
theorem Fb.vault {w0 w : World} {B : Nat} {st : Hst} {I k bo : Nat} {vok vrows : Value} {vals : List Value} {base : Nat} {vf : Value} (h : Fb w0 w B st I k bo vok vrows vals base vf) : Calls Tryz.prog 20 #[.pointer (some ⟨B + 2, 0, none⟩)] w fun x w' => x = .returned (.pointer (some ⟨B, 0, none⟩)) ∧ w' = w := by
  obtain ⟨mt, mv, v, hS, _⟩ := h.dn.src
  exact srcVault_any _ w _ _ _ _ _ _ _ _ _ _ _ _ hS
set_option maxRecDepth 100000 in
set_option maxHeartbeats 8000000 in
theorem back_any (v : Value) (es : List Ev) (w : World) (T : Tabs w) (hv : EvRow w v es) :
    Calls Tryz.prog 3 #[v] w fun x w' => x = .returned (.bool true) ∧ Below w.heap.size w w' := by
  have F := hide (few_any v es w hv)
  have TK := T.k.lt
  have TT := hide T
  have HV := hide hv
  obtain ⟨ao, cap, rfl⟩ := hv.slice
  clear hv T
  cases hf : fewB es
  · rw [hf] at F
    go_enter Tryz.func3, Tryz.ntmps3
    go_wp2_with (go_at_call 12; (with_reducible refine F.out.mono ?_); rintro x w1 ⟨rfl, hb1⟩)
    go_ret
    exact ⟨rfl, hb1⟩
  · rw [hf] at F
    obtain ⟨h30, hbr⟩ := few_brief hf
    have BR := hide hbr
    clear hf hbr
    have hps := ptrS_nil
    have hDid := hide (Did.hist (sec := secB) es Did.none)
    have hfew := hist_few (sec := secB) es hst0
    have hf0 : hst0.ok.length = 0 := rfl
    have DA := hide (fun wx (hb : Below w.heap.size w wx) => done_any (.slice ao es.length cap) es wx (TT.out.below hb TK) (HV.out.turned hb (Nat.le_refl _)) (by omega) BR.out)
    generalize hist secB es hst0 = st at hDid hfew DA
    have hok : st.ok.length ≤ 30 := by omega
    have HRL := hide hDid.out.recs.1
    clear hfew hf0
    go_enter Tryz.func3, Tryz.ntmps3
    go_wp2_with (first
      | (go_at_call 12; (with_reducible refine F.out.mono ?_); rintro x w1 ⟨rfl, hb1⟩
         have B1 := hide hb1
         have F2 := hide (fed_any w1 (TT.out.below hb1 TK))
         clear hb1)
      | (go_at_call 13; (with_reducible refine F2.out.mono ?_); rintro x w2 ⟨rfl, hb2⟩
         have B2 := hide (B1.out.trans (hb2.mono B1.out.size))
         clear hb2)
      | (go_at_call 14; (with_reducible refine (DA.out _ B2.out).mono ?_); rintro x w3 ⟨vok, vrows, vals, rfl, hD, hvl, hb3⟩
         obtain ⟨po, co, rfl⟩ := ownsRow_slice hD.noted
         have hz := (Below.refl _ w3).alloc (Nat.le_refl _) (.cells #[.slice po st.ok.length co] 22)
         have D3 := hide (hD.still hz)
         have X3 := hide (HasR.new w3 22 #[.slice po st.ok.length co])
         have B3 := hide ((B2.out.trans (hb3.mono B2.out.size)).trans (hz.mono (B2.out.trans (hb3.mono B2.out.size)).size))
         obtain ⟨mt, mv, vv, hS, _⟩ := D3.out.src
         have FE := hide (srcFeed_any _ _ _ _ _ _ _ _ _ _ _ _ _ _ hS (by rw [HRL.out]; omega))
         have FI := hide hS.fit
         clear hD hb3 hz hS)
      | (go_at_call 15; (with_reducible refine FE.out.mono ?_); rintro x w4 ⟨vf, rfl, hr4, hb4⟩
         have D4 := hide (D3.out.still hb4)
         have X4 := hide (X3.out.below hb4 X3.out.lt)
         have B4 := hide (B3.out.trans (hb4.mono B3.out.size))
         have W4 := hide (whole_any vf st.rs _ w4 hr4 (by rw [HRL.out]; omega) FI.out (fun k hk => (hDid.out.recs.2 k (by rw [HRL.out] at hk; exact hk)).2) (TT.out.below B4.out TK).k)
         rw [HRL.out] at hr4
         have R4 := hide hr4
         obtain ⟨pf, cf, rfl⟩ := ownsRow_slice hr4
         clear hr4 hb4 FE)
      | (go_at_call 16; (with_reducible refine W4.out.mono ?_); rintro x w5 ⟨rfl, hb5⟩
         have X5 := hide (X4.out.below hb5 X4.out.lt)
         have x5 : w5.cell? ⟨w3.heap.size, 0, none⟩ = some (.slice po st.ok.length co) := X5.out.cell 0
         have hz := hb5.alloc hb5.size (.cells #[.int .i64 0] 3)
         have L0 := hide (Fb.mk (w0 := w) (HasR.new w5 3 #[.int .i64 0]) (X5.out.alloc _) (D4.out.still hz) (ownsRow_below R4.out hz) (B4.out.trans (hz.mono B4.out.size)))
         clear hb5 hz))
    clear F DA B1 B2 F2 D3 X3 B3 D4 X4 B4 R4 W4
    go_loopw [9] (fun p wr => ∃ (I k : Nat), k ≤ st.ok.length ∧ p = .pointer (some ⟨I, 0, none⟩) ∧ Fb w wr w2.heap.size st I k w3.heap.size (.slice po st.ok.length co) vrows vals _ (.slice pf st.ok.length cf)) (fun p w => st.ok.length - ptrInt p w)
    case atStart => exact ⟨w5.heap.size, 0, Nat.zero_le _, rfl, L0.out⟩
    case round =>
      clear L0 x5 X5
      obtain ⟨I, k, hk, rfl, hI⟩ := hrel
      have L := hide hI
      clear hI
      have ci : wr.cell? ⟨I, 0, none⟩ = some (.int .i64 k) := L.out.i.cell 0
      by_cases hlt : k < st.ok.length
      · obtain ⟨hRO, hq, hpr⟩ := hDid.out.recs.2 k hlt
        have hfit : Fit (st.rs.getD k recZ) := FI.out _ (getD_mem (by rw [HRL.out]; exact hlt))
        obtain ⟨x, er, hx, hO⟩ := open_either hRO hfit
        obtain ⟨go, rfl, _⟩ := block_of L.out.dn.noted (by omega)
        obtain ⟨gf, rfl, _⟩ := block_of L.out.fd (by omega)
        have hco : st.ok.length ≤ co := by
          rcases L.out.dn.noted.2 with ⟨e1, _⟩ | ⟨g, cap', cur, e1, _, _, a1, _⟩
          · cases e1
          · simp only [Value.slice.injEq] at e1
            rw [e1.2.2]; exact a1
        have OC := hide (fun wx (h : Fb w wx w2.heap.size st I k w3.heap.size (.slice (some ⟨go, 0, none⟩) st.ok.length co) vrows vals (w3.alloc (.cells #[.slice (some ⟨go, 0, none⟩) st.ok.length co] 22)).heap.size (.slice (some ⟨gf, 0, none⟩) st.ok.length cf)) => evs_c h.dn.noted hlt)
        have FC := hide (fun wx (h : Fb w wx w2.heap.size st I k w3.heap.size (.slice (some ⟨go, 0, none⟩) st.ok.length co) vrows vals (w3.alloc (.cells #[.slice (some ⟨go, 0, none⟩) st.ok.length co] 22)).heap.size (.slice (some ⟨gf, 0, none⟩) st.ok.length cf)) => recs_c h.fd HRL.out hlt)
        have EVR := hide (evRow_of L.out.dn.noted)
        have HSUB := hide hRO.sub
        have HGEN := hide hRO.gen
        have HX := hide hx
        have HO := hide (fun wx (h : Fb w wx w2.heap.size st I k w3.heap.size (.slice (some ⟨go, 0, none⟩) st.ok.length co) vrows vals (w3.alloc (.cells #[.slice (some ⟨go, 0, none⟩) st.ok.length co] 22)).heap.size (.slice (some ⟨gf, 0, none⟩) st.ok.length cf)) (t : Tabs wx) => (by obtain ⟨mt', mv', v', hS', _⟩ := h.dn.src; exact hO _ _ _ _ _ _ _ _ _ _ _ _ hS' t : Calls Tryz.prog 19 #[.pointer (some ⟨w2.heap.size, 0, none⟩), .agg #[.int .i64 ((st.rs.getD k recZ).q : Int), .string (st.rs.getD k recZ).s, .int .i64 ((st.rs.getD k recZ).g : Int), .string (st.rs.getD k recZ).p, .string (st.rs.getD k recZ).d]] wx fun y w' => y = .returned (.tuple #[.agg #[.int .i64 x.k, .string x.s, .string x.t, .string x.r, .string x.v], er]) ∧ Below wx.heap.size wx w'))
        have HQ := hide hq
        clear hRO hq hpr hfit hx hO
        obtain ⟨lo, hlo⟩ : ∃ lo, lostB (st.ok.drop (k + 1)) (st.ok.getD k ev0).s = lo := ⟨_, rfl⟩
        have HLO := hide hlo
        rw [hlo] at HX
        clear hlo
        have hcf : gf < wr.heap.size := (FC.out _ L.out).2.2.2.2.2
        have i1 : (k : Int) < (st.ok.length : Int) := by omega
        have i3 : (k : Int) + 1 ≤ (st.ok.length : Int) := by omega
        have o1 := (OC.out _ L.out).2.1
        have GL : Hid (∀ wx, (Fb w wx w2.heap.size st I k w3.heap.size (.slice (some ⟨go, 0, none⟩) st.ok.length co) vrows vals (w3.alloc (.cells #[.slice (some ⟨go, 0, none⟩) st.ok.length co] 22)).heap.size (.slice (some ⟨gf, 0, none⟩) st.ok.length cf)) → k + 1 < co → Calls Tryz.prog 17 #[.slice (some ⟨go, (k + 1) * 5, none⟩) (st.ok.length - (k + 1)) (co - (k + 1)), .func (.func 18) #[] #[.pointer (some ⟨w3.heap.size, 0, none⟩), .pointer (some ⟨I, 0, none⟩)]] wx fun e w' => e = .returned (.bool lo) ∧ Below wx.heap.size wx w') := by
          intro wx h hcc
          have ev := (evRow_of h.dn.noted).tail (m := k + 1) hlt hco
          rw [Nat.zero_add] at ev
          have := goneLater w3.heap.size I go 0 st.ok.length co k (st.ok.getD k ev0).s _ (st.ok.drop (k + 1)) wx ev (by rw [List.length_drop]; omega) (h.box.cell 0) (h.i.cell 0) hlt (by rw [Nat.zero_add]; exact (evs_c h.dn.noted hlt).2.1)
          rw [HLO.out] at this
          exact this
        have NL : Hid (¬ k + 1 < co → lo = false) := fun hcc => by
          rw [← HLO.out, List.drop_eq_nil_of_le (by omega)]
          rfl
        clear o1 EVR
        generalize st.ok.getD k ev0 = e at HX OC HSUB HGEN HLO
        generalize st.rs.getD k recZ = r at FC HSUB HGEN HO HQ
        have cb : wr.cell? ⟨w3.heap.size, 0, none⟩ = some (.slice (some ⟨go, 0, none⟩) st.ok.length co) := L.out.box.cell 0
        have NT := hide (fun p c fv wx => containsNone p c fv wx)
        go_upto_region 15 with fail
        go_cut [10] (fun s10 wx => s10 = .bool lo ∧ Fb w wx w2.heap.size st I k w3.heap.size (.slice (some ⟨go, 0, none⟩) st.ok.length co) vrows vals (w3.alloc (.cells #[.slice (some ⟨go, 0, none⟩) st.ok.length co] 22)).heap.size (.slice (some ⟨gf, 0, none⟩) st.ok.length cf))
        case first =>
          by_cases hcc : k + 1 < co
          · have GC := hide (GL.out wr L.out hcc)
            go_wp2_with (
              go_at_call 17; (with_reducible refine GC.out.mono ?_); rintro y w6 ⟨rfl, hb6⟩
              have L6 := hide (L.out.still hb6)
              clear hb6)
            go_meet
            exact ⟨rfl, L6.out⟩
          · have hlo := NL.out hcc
            obtain rfl : co = k + 1 := by omega
            go_wp2_with (go_at_call 17; (with_reducible refine (NT.out _ _ _ _).mono ?_); rintro y w6 ⟨rfl, hw6⟩; obtain rfl := hw6.symm)
            go_meet
            exact ⟨by rw [hlo], L.out⟩
        case rest =>
          clear ci cb
          obtain ⟨rfl, hL2⟩ := hcut
          have L2 := hide hL2
          clear hL2
          obtain ⟨f0, f1, f2, f3, f4, hgf⟩ := FC.out _ L2.out
          have ci : wc.cell? ⟨I, 0, none⟩ = some (.int .i64 (k : Int)) := L2.out.i.cell 0
          have LS1 := hide (L2.out.still (Below.refl _ wc).drew)
          have LS2 := hide (L2.out.still ((Below.refl _ wc).alloc (Nat.le_refl _) (.cells #[.int .i64 0, .string ⟨#[]⟩, .string ⟨#[]⟩, .string ⟨#[]⟩, .string ⟨#[]⟩] 35)).drew)
          have lI := L2.out.i.lt
          have ne1 : wc.heap.size ≠ I := by omega
          have ne2 : I ≠ wc.heap.size := by omega
          have ne3 : wc.heap.size ≠ gf := by omega
          have ne4 : gf ≠ wc.heap.size := by omega
          go_upto_region 16 with fail
          go_cut [11, 12] (fun s11 s12 wx => ∃ be : Nat, s11 = .pointer (some ⟨be, 0, none⟩) ∧ s12 = er ∧ HasR wx be 35 #[.int .i64 x.k, .string x.s, .string x.t, .string x.r, .string x.v] ∧ Fb w wx w2.heap.size st I k w3.heap.size (.slice (some ⟨go, 0, none⟩) st.ok.length co) vrows vals (w3.alloc (.cells #[.slice (some ⟨go, 0, none⟩) st.ok.length co] 22)).heap.size (.slice (some ⟨gf, 0, none⟩) st.ok.length cf))
          case first =>
            go_region_held3 (fun wx => wx.cell? ⟨I, 0, none⟩ = some (.int .i64 (k : Int)) ∧ wx.cell? ⟨gf, k * 5, none⟩ = some (.int .i64 (r.q : Int)) ∧ wx.cell? ⟨gf, k * 5 + 1, none⟩ = some (.string r.s) ∧ wx.cell? ⟨gf, k * 5 + 2, none⟩ = some (.int .i64 (r.g : Int)) ∧ wx.cell? ⟨gf, k * 5 + 3, none⟩ = some (.string r.p) ∧ wx.cell? ⟨gf, k * 5 + 4, none⟩ = some (.string r.d)) (first | (with_reducible exact K7.out) | go_keep)
              (first
              | (go_at_call 20; (with_reducible refine LS1.out.vault.mono ?_); rintro y w6 ⟨rfl, hw6⟩; obtain rfl := hw6.symm)
              | (go_at_call 20; (with_reducible refine LS2.out.vault.mono ?_); rintro y w6 ⟨rfl, hw6⟩; obtain rfl := hw6.symm)
              | (go_at_call 19; (with_reducible refine (HO.out _ LS1.out (TT.out.below LS1.out.bel TK)).mono ?_); rintro y w7 ⟨rfl, hb7⟩; have L7 := hide (LS1.out.still hb7); have B7 := hide ((Below.refl wc.heap.size wc).drew.trans (hb7.mono (Below.refl wc.heap.size wc).drew.size)); obtain ⟨y0, y1, y2, y3, y4, lg7⟩ := FC.out _ L7.out; have yi : w7.cell? ⟨I, 0, none⟩ = some (.int .i64 (k : Int)) := L7.out.i.cell 0; have K7 := hide (And.intro yi (And.intro y0 (And.intro y1 (And.intro y2 (And.intro y3 y4))))); have lI7 := L7.out.i.lt; have ne5 : w7.heap.size ≠ I := (by omega); have ne6 : I ≠ w7.heap.size := (by omega); have ne7 : w7.heap.size ≠ gf := (by omega); have ne8 : gf ≠ w7.heap.size := (by omega); clear hb7)
              | (go_at_call 19; (with_reducible refine (HO.out _ LS2.out (TT.out.below LS2.out.bel TK)).mono ?_); rintro y w7 ⟨rfl, hb7⟩; have L7 := hide (LS2.out.still hb7); have X7 := hide ((HasR.new wc 35 #[.int .i64 0, .string ⟨#[]⟩, .string ⟨#[]⟩, .string ⟨#[]⟩, .string ⟨#[]⟩]).drew.below hb7 (HasR.new wc 35 _).drew.lt); have B7 := hide (((Below.refl wc.heap.size wc).alloc (Nat.le_refl _) (.cells #[.int .i64 0, .string ⟨#[]⟩, .string ⟨#[]⟩, .string ⟨#[]⟩, .string ⟨#[]⟩] 35)).drew.trans (hb7.mono ((Below.refl wc.heap.size wc).alloc (Nat.le_refl _) (.cells #[.int .i64 0, .string ⟨#[]⟩, .string ⟨#[]⟩, .string ⟨#[]⟩, .string ⟨#[]⟩] 35)).drew.size)); obtain ⟨y0, y1, y2, y3, y4, lg7⟩ := FC.out _ L7.out; have yi : w7.cell? ⟨I, 0, none⟩ = some (.int .i64 (k : Int)) := L7.out.i.cell 0; have K7 := hide (And.intro yi (And.intro y0 (And.intro y1 (And.intro y2 (And.intro y3 y4))))); have z0 : w7.cell? ⟨wc.heap.size, 0, none⟩ = some (.int .i64 0) := X7.out.cell 0; have z1 : w7.cell? ⟨wc.heap.size, 1, none⟩ = some (.string ⟨#[]⟩) := X7.out.cell 1; have z2 : w7.cell? ⟨wc.heap.size, 2, none⟩ = some (.string ⟨#[]⟩) := X7.out.cell 2; have z3 : w7.cell? ⟨wc.heap.size, 3, none⟩ = some (.string ⟨#[]⟩) := X7.out.cell 3; have z4 : w7.cell? ⟨wc.heap.size, 4, none⟩ = some (.string ⟨#[]⟩) := X7.out.cell 4; have o0 : w7.frozen? ⟨wc.heap.size, 0, none⟩ = false := X7.out.free 0; have o1 : w7.frozen? ⟨wc.heap.size, 1, none⟩ = false := X7.out.free 1; have o2 : w7.frozen? ⟨wc.heap.size, 2, none⟩ = false := X7.out.free 2; have o3 : w7.frozen? ⟨wc.heap.size, 3, none⟩ = false := X7.out.free 3; have o4 : w7.frozen? ⟨wc.heap.size, 4, none⟩ = false := X7.out.free 4; clear hb7))
            all_goals
              go_wp2
              go_meet
              first
                | exact ⟨wc.heap.size, rfl, rfl, HasR.five X7.out _ _ _ _ _, L2.out.still (B7.out.trans ((stir5 w7 wc.heap.size _ _ _ _ _).below B7.out.size (fun j hj => by simp at hj; omega)))⟩
                | exact ⟨w7.heap.size, rfl, rfl, HasR.new w7 35 _, L7.out.still ((Below.refl _ w7).alloc (Nat.le_refl _) _)⟩
          case rest =>
            clear ci f0 f1 f2 f3 f4 hgf LS1 LS2 lI ne1 ne2 ne3 ne4 NL GL NT L2
            obtain ⟨be, rfl, hs12, hXE, hL3⟩ := hcut
            have L3 := hide hL3
            have XE := hide hXE
            clear hL3 hXE
            have hqz : (r.q : Int) = (k : Int) + 1 := by rw [HQ.out]; omega
            have hsx : (e.s.toList == e.s.toList) = true := by simp
            have x0 : wc.cell? ⟨be, 0, none⟩ = some (.int .i64 x.k) := XE.out.cell 0
            have x1 : wc.cell? ⟨be, 1, none⟩ = some (.string x.s) := XE.out.cell 1
            have x2 : wc.cell? ⟨be, 2, none⟩ = some (.string x.t) := XE.out.cell 2
            have x3 : wc.cell? ⟨be, 3, none⟩ = some (.string x.r) := XE.out.cell 3
            have x4 : wc.cell? ⟨be, 4, none⟩ = some (.string x.v) := XE.out.cell 4
            have lbe := XE.out.lt
            have hgd := guard35
            obtain ⟨o0, o1, o2, o3, o4, hgo⟩ := OC.out _ L3.out
            obtain ⟨f0, f1, f2, f3, f4, hgf⟩ := FC.out _ L3.out
            rw [HSUB.out] at f1
            rw [hqz] at f0
            have ci : wc.cell? ⟨I, 0, none⟩ = some (.int .i64 (k : Int)) := L3.out.i.cell 0
            have cb : wc.cell? ⟨w3.heap.size, 0, none⟩ = some (.slice (some ⟨go, 0, none⟩) st.ok.length co) := L3.out.box.cell 0
            have lI := L3.out.i.lt
            have lb := L3.out.box.lt
            rcases HX.out with ⟨hk3, hlo, rfl, rfl⟩ | ⟨hnl, rfl, rfl⟩
            · subst hs12 hlo
              have d1 : (e.k == 3) = false := by simp [hk3]
              have d2 : (e.k != 3) = true := by simp [bne, hk3]
              have d3 : ((r.g : Int) == 0) = false := by
                have : ¬ r.g = 0 := fun h0 => hk3 (HGEN.out.1 h0)
                simp; omega
              have hev := ev_neq 0 ⟨#[]⟩ ⟨#[]⟩ ⟨#[]⟩ ⟨#[]⟩
              have TA := hide (tell_arg 8 wc (TT.out.below L3.out.bel TK).e)
              clear hk3
              go_upto_region 22 with (
                go_at_call 21; (with_reducible refine TA.out.mono ?_); rintro y w8 ⟨rfl, hb8⟩
                have L8 := hide (L3.out.still hb8)
                have XE8 := hide (XE.out.below hb8 XE.out.lt)
                have x80 : w8.cell? ⟨be, 0, none⟩ = some (.int .i64 0) := XE8.out.cell 0
                have x81 : w8.cell? ⟨be, 1, none⟩ = some (.string ⟨#[]⟩) := XE8.out.cell 1
                have x82 : w8.cell? ⟨be, 2, none⟩ = some (.string ⟨#[]⟩) := XE8.out.cell 2
                have x83 : w8.cell? ⟨be, 3, none⟩ = some (.string ⟨#[]⟩) := XE8.out.cell 3
                have x84 : w8.cell? ⟨be, 4, none⟩ = some (.string ⟨#[]⟩) := XE8.out.cell 4
                clear hb8)
              clear o0 o1 o2 o3 o4 hgo f0 f1 f2 f3 f4 hgf ci cb lI lb
              obtain ⟨o0, o1, o2, o3, o4, hgo⟩ := OC.out _ L8.out
              obtain ⟨f0, f1, f2, f3, f4, hgf⟩ := FC.out _ L8.out
              rw [HSUB.out] at f1
              rw [hqz] at f0
              have ci : w8.cell? ⟨I, 0, none⟩ = some (.int .i64 (k : Int)) := L8.out.i.cell 0
              have cb : w8.cell? ⟨w3.heap.size, 0, none⟩ = some (.slice (some ⟨go, 0, none⟩) st.ok.length co) := L8.out.box.cell 0
              have lI := L8.out.i.lt
              have lb := L8.out.box.lt
              go_quiet (fail)
              have L9 := hide (L8.out.still (below_dn (Below.refl _ w8) nq))
              clear o0 o1 o2 o3 o4 f0 f1 f2 f3 f4 ci cb
              generalize w8.drewN nq = w9 at L9 ⊢
              have ci : w9.cell? ⟨I, 0, none⟩ = some (.int .i64 (k : Int)) := L9.out.i.cell 0
              go_wp2
              obtain ⟨g1, g2⟩ := L.out.fin w9 L9.out (Below.refl _ _) hlt
              first
                | exact ⟨g1, g2⟩
                | exact ⟨by ((repeat apply Exists.intro); exact ⟨g1, rfl⟩), g2⟩
            · subst hs12
              have hne := nilNe
              have hev := ev_neq x.k x.s x.t x.r x.v
              by_cases hk3 : x.k = 3
              · have d1 : (x.k == 3) = true := by simp [hk3]
                have d2 : (x.k != 3) = false := by simp [bne, hk3]
                have d3 : ((r.g : Int) == 0) = true := by
                  have : r.g = 0 := HGEN.out.2 hk3
                  simp; omega
                clear hk3 hnl
                go_upto_region 20 with fail
                go_quiet (fail)
                have L8 := hide (L3.out.still (below_dn (Below.refl _ wc) nq))
                clear o0 o1 o2 o3 o4 hgo f0 f1 f2 f3 f4 hgf ci cb lI lb x0 x1 x2 x3 x4
                generalize wc.drewN nq = w8 at L8 ⊢
                obtain ⟨o0, o1, o2, o3, o4, hgo⟩ := OC.out _ L8.out
                obtain ⟨f0, f1, f2, f3, f4, hgf⟩ := FC.out _ L8.out
                rw [HSUB.out] at f1
                rw [hqz] at f0
                have ci : w8.cell? ⟨I, 0, none⟩ = some (.int .i64 (k : Int)) := L8.out.i.cell 0
                have cb : w8.cell? ⟨w3.heap.size, 0, none⟩ = some (.slice (some ⟨go, 0, none⟩) st.ok.length co) := L8.out.box.cell 0
                have lI := L8.out.i.lt
                have lb := L8.out.box.lt
                go_upto_region 22 with fail
                go_quiet (fail)
                have L9 := hide (L8.out.still (below_dn (Below.refl _ w8) nq))
                clear o0 o1 o2 o3 o4 f0 f1 f2 f3 f4 ci cb
                generalize w8.drewN nq = w9 at L9 ⊢
                have ci : w9.cell? ⟨I, 0, none⟩ = some (.int .i64 (k : Int)) := L9.out.i.cell 0
                go_wp2
                obtain ⟨g1, g2⟩ := L.out.fin w9 L9.out (Below.refl _ _) hlt
                first
                  | exact ⟨g1, g2⟩
                  | exact ⟨by ((repeat apply Exists.intro); exact ⟨g1, rfl⟩), g2⟩
              · have hlo : lo = false := by
                  cases lo
                  · rfl
                  · exact absurd ⟨hk3, rfl⟩ hnl
                subst hlo
                have d1 : (x.k == 3) = false := by simp [hk3]
                have d2 : (x.k != 3) = true := by simp [bne, hk3]
                have d3 : ((r.g : Int) == 0) = false := by
                  have : ¬ r.g = 0 := fun h0 => hk3 (HGEN.out.1 h0)
                  simp; omega
                clear hk3 hnl
                go_upto_region 20 with fail
                go_quiet (fail)
                have L8 := hide (L3.out.still (below_dn (Below.refl _ wc) nq))
                clear o0 o1 o2 o3 o4 hgo f0 f1 f2 f3 f4 hgf ci cb lI lb x0 x1 x2 x3 x4
                generalize wc.drewN nq = w8 at L8 ⊢
                obtain ⟨o0, o1, o2, o3, o4, hgo⟩ := OC.out _ L8.out
                obtain ⟨f0, f1, f2, f3, f4, hgf⟩ := FC.out _ L8.out
                rw [HSUB.out] at f1
                rw [hqz] at f0
                have ci : w8.cell? ⟨I, 0, none⟩ = some (.int .i64 (k : Int)) := L8.out.i.cell 0
                have cb : w8.cell? ⟨w3.heap.size, 0, none⟩ = some (.slice (some ⟨go, 0, none⟩) st.ok.length co) := L8.out.box.cell 0
                have lI := L8.out.i.lt
                have lb := L8.out.box.lt
                go_upto_region 22 with fail
                go_quiet (fail)
                have L9 := hide (L8.out.still (below_dn (Below.refl _ w8) nq))
                clear o0 o1 o2 o3 o4 f0 f1 f2 f3 f4 ci cb
                generalize w8.drewN nq = w9 at L9 ⊢
                have ci : w9.cell? ⟨I, 0, none⟩ = some (.int .i64 (k : Int)) := L9.out.i.cell 0
                go_wp2
                obtain ⟨g1, g2⟩ := L.out.fin w9 L9.out (Below.refl _ _) hlt
                first
                  | exact ⟨g1, g2⟩
                  | exact ⟨by ((repeat apply Exists.intro); exact ⟨g1, rfl⟩), g2⟩
      · go_wp2
        go_ret
        exact ⟨rfl, L.out.bel⟩
end Go.Proofs.YtbmiheebhinbpaaGreatDoor

/- Who comes late has what is left: a reader of a feed to which all happened already. -/
namespace Go.Proofs.YtbmiheebhinbpaaGreatDoor
open Go.RowKit Go.Sort
attribute [local go_sem ↓] Go.wp_at_zero Go.wp_at_succ
set_option linter.unusedSectionVars false
variable [Inhabited Cl] [Inhabited Ev]
/-- Is a record lost to who comes late, and how many are. -/
def lossB (ok : List Ev) (k : Nat) : Bool := !decide ((ok.getD k ev0).k = 3) && lostB (ok.drop (k + 1)) (ok.getD k ev0).s
def lostN (ok : List Ev) : Nat → Nat
  | 0 => 0
  | k + 1 => lostN ok k + if lossB ok k = true then 1 else 0
theorem lostN_le (ok : List Ev) : ∀ k, lostN ok k ≤ k
  | 0 => Nat.le_refl 0
  | k + 1 => by
    have := lostN_le ok k
    show lostN ok k + (if lossB ok k = true then 1 else 0) ≤ k + 1
    split <;> omega
theorem lossB_iff {ok : List Ev} {k : Nat} : lossB ok k = true ↔ (ok.getD k ev0).k ≠ 3 ∧ lostB (ok.drop (k + 1)) (ok.getD k ev0).s = true := by
  unfold lossB
  rw [Bool.and_eq_true, Bool.not_eq_true', decide_eq_false_iff_not]
theorem headR_take {rs : List Rec} {k : Nat} (h : k < rs.length) : headR (rs.take (k + 1)) = markR (rs.getD k recZ) := by
  have hne : ¬ rs.take (k + 1) = [] := fun e => by
    have := congrArg List.length e
    rw [List.length_take, List.length_nil, Nat.min_eq_left (by omega)] at this
    omega
  unfold headR
  rw [if_neg hne, List.length_take, Nat.min_eq_left (by omega), List.getD_eq_getElem?_getD, List.getD_eq_getElem?_getD, List.getElem?_take_of_lt (by omega)]
  rfl
set_option maxRecDepth 100000 in
set_option maxHeartbeats 1000000 in
/-- What was read is passed over. -/
theorem read_old (w : World) (rb vb read lost : Nat) (mark : ByteArray) (mt : Option Nat) (nt : Nat) (τ : Tab) (r : Rec) (h : TabV w rb 124 #[.pointer (some ⟨vb, 0, none⟩), .int .i64 (read : Int), .string mark, .int .i64 (lost : Int)] mt nt τ) (h1 : 1 ≤ r.q) (h2 : r.q ≤ read) :
    Calls Tryz.prog 43 #[.pointer (some ⟨rb, 0, none⟩), .agg #[.int .i64 (r.q : Int), .string r.s, .int .i64 (r.g : Int), .string r.p, .string r.d]] w fun y w' => y = .returned .nilIface ∧ Below w.heap.size w w' := by
  have bel : Below w.heap.size w (w.alloc (.cells #[.int .i64 (r.q : Int), .string r.s, .int .i64 (r.g : Int), .string r.p, .string r.d] 44)) := (Below.refl _ w).alloc (Nat.le_refl _) _
  have E0 := hide (HasR.new w 44 #[.int .i64 (r.q : Int), .string r.s, .int .i64 (r.g : Int), .string r.p, .string r.d])
  have AT := hide (at_any _ rb vb read lost mark mt nt τ (h.below bel))
  have BL := hide bel
  have hq1 := ptrR_nil rb
  have n1 : (1 : Int) ≤ (r.q : Int) := by omega
  have n2 : (r.q : Int) ≤ (read : Int) := by omega
  have d1 : decide ((1 : Int) ≤ (r.q : Int)) = true := decide_eq_true n1
  have d2 : decide ((r.q : Int) ≤ (read : Int)) = true := decide_eq_true n2
  clear h bel
  go_enter Tryz.func43, Tryz.ntmps43
  go_wp2_with (
    go_at_call 45; (with_reducible refine AT.out.mono ?_); rintro y w1 ⟨rfl, hb1⟩
    have B1 := hide (BL.out.trans (hb1.mono BL.out.size))
    have E1 := hide (E0.out.below hb1 E0.out.lt)
    have e0 : w1.cell? ⟨w.heap.size, 0, none⟩ = some (.int .i64 (r.q : Int)) := E1.out.cell 0
    clear hb1)
  go_ret
  exact ⟨rfl, B1.out⟩
set_option maxRecDepth 100000 in
set_option maxHeartbeats 1000000 in
/-- Of those ahead it reads the next one alone. -/
theorem read_order (w : World) (rb vb read lost : Nat) (mark : ByteArray) (mt : Option Nat) (nt : Nat) (τ : Tab) (r : Rec) (h : TabV w rb 124 #[.pointer (some ⟨vb, 0, none⟩), .int .i64 (read : Int), .string mark, .int .i64 (lost : Int)] mt nt τ) (h2 : read + 1 < r.q) (h3 : r.q < 1000) :
    Calls Tryz.prog 43 #[.pointer (some ⟨rb, 0, none⟩), .agg #[.int .i64 (r.q : Int), .string r.s, .int .i64 (r.g : Int), .string r.p, .string r.d]] w fun y w' => y = .returned (.iface 45 (.int .i64 10)) ∧ Below w.heap.size w w' := by
  have bel : Below w.heap.size w (w.alloc (.cells #[.int .i64 (r.q : Int), .string r.s, .int .i64 (r.g : Int), .string r.p, .string r.d] 44)) := (Below.refl _ w).alloc (Nat.le_refl _) _
  have E0 := hide (HasR.new w 44 #[.int .i64 (r.q : Int), .string r.s, .int .i64 (r.g : Int), .string r.p, .string r.d])
  have AT := hide (at_any _ rb vb read lost mark mt nt τ (h.below bel))
  have BL := hide bel
  have hq1 := ptrR_nil rb
  have n1 : (1 : Int) ≤ (r.q : Int) := by omega
  have n2 : ¬ (r.q : Int) ≤ (read : Int) := by omega
  have n3 : ¬ (r.q : Int) < 1 := by omega
  have d1 : decide ((1 : Int) ≤ (r.q : Int)) = true := decide_eq_true n1
  have d2 : decide ((r.q : Int) ≤ (read : Int)) = false := decide_eq_false n2
  have d3 : decide ((r.q : Int) < 1) = false := decide_eq_false n3
  have hwr : IntKind.i64.wrap ((r.q : Int) - 1) = (r.q : Int) - 1 := by rw [IntKind.wrap_i64]; omega
  have d4 : ((r.q : Int) - 1 != (read : Int)) = true := by simp [bne]; omega
  have n4 : ¬ (r.q : Int) - 1 = (read : Int) := by omega
  clear h bel
  go_enter Tryz.func43, Tryz.ntmps43
  go_wp2_with (
    go_at_call 45; (with_reducible refine AT.out.mono ?_); rintro y w1 ⟨rfl, hb1⟩
    have B1 := hide (BL.out.trans (hb1.mono BL.out.size))
    have E1 := hide (E0.out.below hb1 E0.out.lt)
    have e0 : w1.cell? ⟨w.heap.size, 0, none⟩ = some (.int .i64 (r.q : Int)) := E1.out.cell 0
    clear hb1)
  go_ret
  exact ⟨rfl, B1.out⟩
/-- A reader that read the first n records, all of its own blocks from Br on. -/
structure Rl (w : World) (Br B rb : Nat) (st : Hst) (n : Nat) : Prop where
  rd : ∃ mr nt mark, TabV w rb 124 #[.pointer (some ⟨B, 0, none⟩), .int .i64 (n : Int), .string mark, .int .i64 ((lostN st.ok n : Nat) : Int)] mr nt (lateT st.ok n) ∧ nt ≤ n ∧ markAt n mark = headR (st.rs.take n) ∧ ∀ m, mr = some m → Br ≤ m
  low : Br ≤ rb
theorem Rl.still {w w' : World} {Br B rb : Nat} {st : Hst} {n : Nat} (h : Rl w Br B rb st n) (b : Below w.heap.size w w') : Rl w' Br B rb st n := by
  obtain ⟨mr, nt, mark, hT, h1, h2, h3⟩ := h.rd
  exact ⟨⟨mr, nt, mark, hT.below b, h1, h2, h3⟩, h.low⟩
theorem Rl.start (w : World) (B : Nat) (st : Hst) : Rl (w.alloc (.cells #[.pointer (some ⟨B, 0, none⟩), .int .i64 0, .string ⟨#[]⟩, .int .i64 0, .map none] 124)) w.heap.size B w.heap.size st 0 :=
  ⟨⟨none, 0, ⟨#[]⟩, ⟨HasR.new w 124 _, fun _ => lateT_start st.ok, (fun m e => by cases e)⟩, Nat.le_refl _, rfl, (fun m e => by cases e)⟩, Nat.le_refl _⟩
theorem Rl.read {w : World} {Br B rb : Nat} {st : Hst} {n : Nat} (h : Rl w Br B rb st n) (hd : Did secB st) (S : ∃ mt mv v, Src B w (B + 2) (B + 1) B mt mv v st.ok.length st.ok.length secB st.σ st.τ st.rs) (T : Tabs w) (h3 : 3 < Br) (hn : st.ok.length < 100) (hk : n < st.ok.length) (hbr : Brief (st.ok.getD n ev0)) :
    Calls Tryz.prog 43 #[.pointer (some ⟨rb, 0, none⟩), .agg #[.int .i64 ((st.rs.getD n recZ).q : Int), .string (st.rs.getD n recZ).s, .int .i64 ((st.rs.getD n recZ).g : Int), .string (st.rs.getD n recZ).p, .string (st.rs.getD n recZ).d]] w fun x w' => x = .returned .nilIface ∧ Rl w' Br B rb st (n + 1) ∧ ∃ L, Stirred L w w' ∧ ∀ j ∈ L, Br ≤ j ∧ j < w.heap.size ∧ ∀ t cs, HasR w j t cs → t = 124 := by
  obtain ⟨mr, nt, mark, hT, h1, h2, h4⟩ := h.rd
  obtain ⟨mt, mv, v, hS⟩ := S
  obtain ⟨hrl, hrecs⟩ := hd.recs
  obtain ⟨hRO, hq, hp⟩ := hrecs n hk
  have hfit : Fit (st.rs.getD n recZ) := hS.fit _ (getD_mem (by omega))
  obtain ⟨x, er, hx, hO⟩ := open_either hRO hfit
  have hE : (lossB st.ok n = true ∧ er = .iface 45 (.int .i64 8)) ∨ (lossB st.ok n = false ∧ er = .nilIface ∧ rightB x = true ∧ Brief x) := by
    rcases hx with ⟨a, b, c, d⟩ | ⟨a, b, c⟩
    · exact .inl ⟨lossB_iff.2 ⟨a, b⟩, d⟩
    · refine .inr ⟨?_, c, by rw [b]; exact hRO.right, by rw [b]; exact hbr⟩
      cases hb : lossB st.ok n
      · rfl
      · exact absurd (lossB_iff.1 hb) a
  have hle := lostN_le st.ok n
  refine (read_next w rb B n (lostN st.ok n) mark mr nt (lateT st.ok n) (st.rs.getD n recZ) x er (lossB st.ok n) hT (fun wx hb => hO _ _ _ _ _ _ _ _ _ _ _ _ (hS.still hb) (T.below hb T.k.lt)) hE (by omega) (by omega) (by omega) hq (by rw [hp, h2]) hfit T.k ?_).mono ?_
  · intro j hj
    rcases List.mem_cons.1 hj with a | a
    · have := h.low; omega
    · have := h4 j (by simpa using a); omega
  · rintro y w' ⟨rfl, mr', hT', hm, hst⟩
    refine ⟨rfl, ⟨⟨mr', nt + 1, markR (st.rs.getD n recZ), ?_, by omega, ?_, fun m em => ?_⟩, h.low⟩, _, hst, fun j hj => ?_⟩
    · have e1 : (if lossB st.ok n = true then lostN st.ok n + 1 else lostN st.ok n) = lostN st.ok (n + 1) := by
        show _ = lostN st.ok n + (if lossB st.ok n = true then 1 else 0)
        split <;> rfl
      have e2 : (if lossB st.ok n = true then lateT st.ok n else app x (lateT st.ok n)) = lateT st.ok (n + 1) := by
        rw [lateT_step hd hk]
        rcases hx with ⟨a, b, c, d⟩ | ⟨a, b, c⟩
        · rw [if_pos (lossB_iff.2 ⟨a, b⟩), if_pos ⟨a, b⟩]
        · rw [if_neg (fun z => a (lossB_iff.1 z)), if_neg a, b]
      rw [e1, e2] at hT'
      exact hT'
    · rw [headR_take (by omega)]
      unfold markAt
      rw [if_neg (by omega)]
    · rcases hm with a | ⟨_, m2, a, b⟩
      · rw [a] at em
        exact h4 m em
      · rw [a] at em
        cases em
        have := hT.row.lt
        have := h.low
        omega
    · rcases List.mem_cons.1 hj with a | a
      · rw [a]
        refine ⟨h.low, hT.row.lt, fun t cs hc => ?_⟩
        by_cases ht : t = 124
        · exact ht
        · exact absurd rfl (hc.apartT hT.row ht)
      · obtain ⟨D, o, _⟩ := hT.held j (by simpa using a)
        exact ⟨h4 j (by simpa using a), o.lt, fun t cs hc => absurd rfl (hc.noMap o)⟩
theorem Rl.cells {w : World} {Br B rb : Nat} {st : Hst} {n : Nat} (h : Rl w Br B rb st n) (hn : n < 100) : Calls Tryz.prog 44 #[.pointer (some ⟨rb, 0, none⟩)] w fun x w' => ∃ u ds, x = .returned u ∧ InOrd (lateT st.ok n) ds ∧ ds.length ≤ 100 ∧ RowC w' w.heap.size u ds ∧ Below w.heap.size w w' := by
  obtain ⟨mr, nt, mark, hT, h1, h2, h4⟩ := h.rd
  refine (rdCells_any w rb B n (lostN st.ok n) mark mr nt (lateT st.ok n) hT (by omega)).mono ?_
  rintro x w' ⟨u, ds, a, b, c, d⟩
  exact ⟨u, ds, a, b, by omega, d⟩
theorem Rl.at {w : World} {Br B rb : Nat} {st : Hst} {n : Nat} (h : Rl w Br B rb st n) : Calls Tryz.prog 45 #[.pointer (some ⟨rb, 0, none⟩)] w fun x w' => x = .returned (.tuple #[.int .i64 (n : Int), .string (headR (st.rs.take n))]) ∧ Below w.heap.size w w' := by
  obtain ⟨mr, nt, mark, hT, h1, h2, h4⟩ := h.rd
  rw [← h2]
  exact at_any w rb B n (lostN st.ok n) mark mr nt (lateT st.ok n) hT
theorem Rl.lost {w : World} {Br B rb : Nat} {st : Hst} {n : Nat} (h : Rl w Br B rb st n) : Calls Tryz.prog 46 #[.pointer (some ⟨rb, 0, none⟩)] w fun x w' => x = .returned (.int .i64 ((lostN st.ok n : Nat) : Int)) ∧ w' = w := by
  obtain ⟨mr, nt, mark, hT, h1, h2, h4⟩ := h.rd
  exact lost_any w rb B n (lostN st.ok n) mark mr nt (lateT st.ok n) hT
set_option maxRecDepth 100000 in
set_option maxHeartbeats 400000 in
theorem pick_any (a : Int) (n : Nat) (h0 : 0 < n) (hn : n ≤ 1000000) (w : World) :
    Calls Tryz.prog 51 #[.int .i64 a, .int .i64 n] w fun e w' => ∃ c : Nat, c < n ∧ e = .returned (.int .i64 c) ∧ w' = w := by
  have x1 : IntKind.u64.wrap (n : Int) = (n : Int) := by rw [IntKind.wrap_u64]; omega
  have x0 : 0 ≤ IntKind.u64.wrap a := by rw [IntKind.wrap_u64]; omega
  have x00 : IntKind.u64.wrap a < 18446744073709551616 := by rw [IntKind.wrap_u64]; omega
  generalize hu : IntKind.u64.wrap a = u at x0 x00
  have x2 : 0 ≤ u % (n : Int) := Int.emod_nonneg _ (by omega)
  have x3 : u % (n : Int) < (n : Int) := Int.emod_lt_of_pos _ (by omega)
  obtain ⟨c, hc⟩ : ∃ c : Nat, u % (n : Int) = (c : Int) := ⟨(u % (n : Int)).toNat, by omega⟩
  have x4 : IntKind.i64.wrap (c : Int) = (c : Int) := by rw [IntKind.wrap_i64]; omega
  go_enter Tryz.func51, Tryz.ntmps51
  go_wp2
  go_ret
  exact ⟨c, by omega, ret_val rfl, rfl⟩
set_option maxRecDepth 100000 in
set_option maxHeartbeats 4000000 in
/-- The laws' own follow: a new reader, of the first records of a feed. -/
theorem follow_any (w : World) (B base n c : Nat) (p : Option Addr) (st : Hst) (hd : Did secB st) (S : ∃ mt mv v, Src B w (B + 2) (B + 1) B mt mv v st.ok.length st.ok.length secB st.σ st.τ st.rs) (T : Tabs w) (hn : st.ok.length < 100) (hl : n ≤ st.ok.length) (hr : w.ownsRow base 44 5 (.slice p st.ok.length c) st.ok.length (recsL st.rs)) (hbr : ∀ e ∈ st.ok, Brief e) :
    Calls Tryz.prog 52 #[.pointer (some ⟨B, 0, none⟩), .slice p n c] w fun x w' => ∃ rb, x = .returned (.tuple #[.pointer (some ⟨rb, 0, none⟩), .bool true]) ∧ Rl w' w.heap.size B rb st n ∧ Below w.heap.size w w' := by
  have TT := hide T
  have TK := T.k.lt
  have SS := hide S
  have HR := hide hr
  have HB := hide hbr
  have hDid := hide hd
  have HRL := hide hd.recs.1
  have RN := hide (rdNew_ok B w)
  have hne := nilNe
  have hpr := ptrR_nil
  have L0 := hide (Rl.start w B st)
  clear T S hr hbr hd
  go_enter Tryz.func52, Tryz.ntmps52
  go_wp2_with (go_at_call 42; (with_reducible refine RN.out.mono ?_); rintro x w6 ⟨rfl, hw6⟩; obtain rfl := hw6.symm)
  go_loopw [8] (fun i wr => ∃ k : Nat, i = .int .i64 k ∧ k ≤ n ∧ Rl wr w.heap.size B w.heap.size st k ∧ Below w.heap.size w wr) (fun i _ => n - (intOf i).toNat)
  case atStart => exact ⟨0, rfl, Nat.zero_le _, L0.out, (Below.refl _ w).alloc (Nat.le_refl _) _⟩
  case round =>
    clear L0 hpr RN
    obtain ⟨k, rfl, hk, hI, hb⟩ := hrel
    have L := hide hI
    have BB := hide hb
    clear hI hb
    by_cases hlt : k < n
    · have hks : k < st.ok.length := by omega
      obtain ⟨g, rfl, _⟩ := block_of HR.out (by omega)
      obtain ⟨f0, f1, f2, f3, f4, hgf⟩ := recs_c (ownsRow_below HR.out BB.out) HRL.out hks
      have S2 : ∃ mt mv v, Src B wr (B + 2) (B + 1) B mt mv v st.ok.length st.ok.length secB st.σ st.τ st.rs := by
        obtain ⟨mt, mv, v, hS⟩ := SS.out
        exact ⟨mt, mv, v, hS.still BB.out⟩
      have RD := hide (L.out.read hDid.out S2 (TT.out.below BB.out TK) (by omega) hn hks (HB.out _ (getD_mem hks)))
      have i1 : (k : Int) < (n : Int) := by omega
      generalize st.rs.getD k recZ = r at f0 f1 f2 f3 f4 RD
      clear S2
      go_wp2_with (
        go_at_call 43; (with_reducible refine RD.out.mono ?_); rintro x w7 ⟨rfl, hL7, L, hst, hL⟩
        have L7 := hide hL7
        have B7 := hide (BB.out.trans (hst.below BB.out.size (fun j hj => (hL j hj).1)))
        clear hL7 hst hL)
      exact ⟨⟨k + 1, by go_num, by omega, L7.out, B7.out⟩, by simp [intOf]; omega⟩
    · have ek : k = n := by omega
      subst ek
      go_wp2
      go_ret2
      exact ⟨w.heap.size, rfl, L.out, BB.out⟩
end Go.Proofs.YtbmiheebhinbpaaGreatDoor
