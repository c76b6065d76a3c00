/- For every list of events: a reader that reads the records when all has happened has, behind each one, the rows that the source had then of those who are not forgotten since, it counts the records that are lost to it, and at last it has the source's rows: ReaderLate returns true, and the list reads behind the call as it did before. The library's type of errors, the tables of the sum and of the kinds, and the library's two tables of runes start as their texts lay them (the card ties that). -/
import Derived.Test.YtbmiheebhinbpaaGreatDoorPart35
/- Who comes late has what is left: the law's own walk. -/
namespace Go.Proofs.YtbmiheebhinbpaaGreatDoor
open Go.RowKit Go.Sort
attribute [local go_sem ↓] Go.wp_at_zero Go.wp_at_succ
set_option linter.unusedSectionVars false
variable [Inhabited Cl] [Inhabited Ev]
theorem run_store_fn (P : Program) (w : World) (a : Addr) (m : Mode) (fn : Fn) (first captured : Array Value) : (store a (.func fn first captured) m).run P w = stored P w a (.func fn first captured) m := run_store P w a _ m rfl
attribute [local go_sem] run_store_fn
theorem Dn.rowAt {B : Nat} {w : World} {σ : Kept} {τ : Tab} {rs : List Rec} {n : Nat} {ok : List Ev} {vok : Value} {vals : List Value} {g cap j : Nat} (h : Dn B w σ τ rs n ok vok (.slice (some ⟨g, 0, none⟩) vals.length cap) vals) (hj : j < vals.length) : w.cell? ⟨g, j, none⟩ = some (vals.getD j nilS) := by
  rw [h.rows.cellAt j (by omega), List.getD_eq_getElem?_getD, List.getElem?_eq_getElem hj]
  rfl
theorem row_le {w : World} {b : Nat} {t : TypeId} {n len m c : Nat} {p : Option Addr} {l : List Value} (h : w.ownsRow b t n (.slice p m c) len l) : len ≤ c := by
  rcases h.2 with ⟨e1, e0⟩ | ⟨g, cap', cur, e1, _, _, a1, _⟩
  · omega
  · simp only [Value.slice.injEq] at e1
    rw [e1.2.2]; exact a1
set_option maxRecDepth 100000 in
set_option maxHeartbeats 8000000 in
theorem rlate_any (v : Value) (es : List Ev) (w : World) (T : Tabs w) (hv : EvRow w v es) :
    Calls Tryz.prog 9 #[v] w fun x w' => x = .returned (.bool true) ∧ Below w.heap.size w w' := by
  have F := hide (few_any v es w hv)
  have TK := T.k.lt
  have TT := hide T
  have HV := hide hv
  obtain ⟨ao, cap, rfl⟩ := hv.slice
  clear hv T
  cases hf : fewB es
  · rw [hf] at F
    go_enter Tryz.func9, Tryz.ntmps9
    go_wp2_with (go_at_call 12; (with_reducible refine F.out.mono ?_); rintro x w1 ⟨rfl, hb1⟩)
    go_ret
    exact ⟨rfl, hb1⟩
  · rw [hf] at F
    obtain ⟨h30, hbr⟩ := few_brief hf
    have BR := hide hbr
    clear hf hbr
    have hps := ptrS_nil
    have hpr := ptrR_nil
    have hne := nilNe
    have hDid := hide (Did.hist (sec := secB) es Did.none)
    have hfew := hist_few (sec := secB) es hst0
    have hf0 : hst0.ok.length = 0 := rfl
    have BRO := hide (fun e (he : e ∈ (hist secB es hst0).ok) => BR.out e (by rcases hist_sub (sec := secB) es hst0 e he with h | h; (simp [hst0] at h); (exact h)))
    have DA := hide (fun wx (hb : Below w.heap.size w wx) => done_any (.slice ao es.length cap) es wx (TT.out.below hb TK) (HV.out.turned hb (Nat.le_refl _)) (by omega) BR.out)
    generalize hist secB es hst0 = st at hDid hfew DA BRO
    have hok : st.ok.length ≤ 30 := by omega
    have HRL := hide hDid.out.recs.1
    clear hfew hf0
    go_enter Tryz.func9, Tryz.ntmps9
    go_upto_region 8 with (first
      | (go_at_call 12; (with_reducible refine F.out.mono ?_); rintro x w1 ⟨rfl, hb1⟩
         have B1 := hide hb1
         have F2 := hide (fed_any w1 (TT.out.below hb1 TK))
         clear hb1)
      | (go_at_call 13; (with_reducible refine F2.out.mono ?_); rintro x w3 ⟨rfl, hb2⟩
         have B3 := hide (B1.out.trans (hb2.mono B1.out.size))
         have F3 := hide (applied_any w3)
         clear hb2)
      | (go_at_call 25; (with_reducible refine F3.out.mono ?_); rintro x w4 ⟨rfl, hb3⟩
         have B4 := hide (B3.out.trans (hb3.mono B3.out.size))
         clear hb3)
      | (go_at_call 14; (with_reducible refine (DA.out _ B4.out).mono ?_); rintro x w2 ⟨vok, vrows, vals, rfl, hD, hvl, hb4⟩
         obtain ⟨po, co, rfl⟩ := ownsRow_slice hD.noted
         obtain ⟨pr, cr, rfl⟩ := ownsRow_slice hD.rows
         have hz := (Below.refl _ w2).alloc (Nat.le_refl _) (.cells #[.slice po st.ok.length co] 22)
         have D5 := hide (hD.still hz)
         have X5 := hide (HasR.new w2 22 #[.slice po st.ok.length co])
         have B5 := hide ((B4.out.trans (hb4.mono B4.out.size)).trans (hz.mono (B4.out.trans (hb4.mono B4.out.size)).size))
         have HVL := hide hvl
         clear hD hb4 hz hvl))
    generalize w2.alloc (.cells #[.slice po st.ok.length co] 22) = w5 at D5 X5 B5 ⊢
    obtain ⟨mt, mv, vv, hS5, _⟩ := D5.out.src
    have VA := hide (srcVault_any _ w5 _ _ _ _ _ _ _ _ _ _ _ _ hS5)
    have RN := hide (rdNew_ok w4.heap.size w5)
    have Z5 := hide ((Below.refl _ w5).alloc (Nat.le_refl _) (.cells #[.pointer (some ⟨w4.heap.size, 0, none⟩), .int .i64 0, .string ⟨#[]⟩, .int .i64 0, .map none] 124))
    have FE := hide (srcFeed_any _ _ _ _ _ _ _ _ _ _ _ _ _ _ (hS5.still Z5.out) (by rw [HRL.out]; omega))
    have RL0 := hide (Rl.start w5 w4.heap.size st)
    clear hS5
    go_wp2_with (first
      | (go_at_call 20; (with_reducible refine VA.out.mono ?_); rintro x w7 ⟨rfl, hw7⟩; obtain rfl := hw7.symm)
      | (go_at_call 42; (with_reducible refine RN.out.mono ?_); rintro x w7 ⟨rfl, hw7⟩; obtain rfl := hw7.symm)
      | (go_at_call 15; (with_reducible refine FE.out.mono ?_); rintro x w6 ⟨vf, rfl, hr6, hb6⟩
         rw [HRL.out] at hr6
         have hz := hb6.alloc hb6.size (.cells #[.int .i64 0] 3)
         have L0 := hide (Lt.mk (w5 := w5) (HasR.new w6 3 #[.int .i64 0]) (RL0.out.still hz) (hr6.alloc _) (Z5.out.trans (hz.mono Z5.out.size)))
         obtain ⟨pf, cf, rfl⟩ := ownsRow_slice hr6
         clear hr6 hb6 hz))
    have hB5 := B5.out.size
    clear F DA B1 F2 F3 VA RN Z5 FE RL0 hps hpr
    go_loopw [9, 10] (fun a p wr => ∃ I k : Nat, a = .int .i64 ((lostN st.ok k : Nat) : Int) ∧ p = .pointer (some ⟨I, 0, none⟩) ∧ k ≤ st.ok.length ∧ Lt w5 wr w4.heap.size w5.heap.size I k st _ (.slice pf st.ok.length cf)) (fun _ p w => st.ok.length - ptrInt p w)
    case atStart => exact ⟨w6.heap.size, 0, rfl, rfl, Nat.zero_le _, L0.out⟩
    case round =>
      clear L0
      obtain ⟨I, k, rfl, rfl, hk, hI⟩ := hrel
      have L := hide hI
      clear hI
      have ci : wr.cell? ⟨I, 0, none⟩ = some (.int .i64 (k : Int)) := L.out.i.cell 0
      have SRC := hide (fun wx (hb : Below w5.heap.size w5 wx) => (show ∃ mt mv v, Src w4.heap.size wx (w4.heap.size + 2) (w4.heap.size + 1) w4.heap.size mt mv v st.ok.length st.ok.length secB st.σ st.τ st.rs from by obtain ⟨mt, mv, v, hS, _⟩ := (D5.out.still hb).src; exact ⟨mt, mv, v, hS⟩))
      have TB := hide (fun wx (hb : Below w5.heap.size w5 wx) => TT.out.below (B5.out.trans (hb.mono hB5)) TK)
      by_cases hlt : k < st.ok.length
      · obtain ⟨gf, rfl, _⟩ := block_of L.out.fd (by omega)
        obtain ⟨go, rfl, _⟩ := block_of D5.out.noted (by omega)
        obtain ⟨gr, rfl, _⟩ := block_of D5.out.rows (by rw [HVL.out]; omega)
        have hco := row_le D5.out.noted
        have hcr := row_le D5.out.rows
        obtain ⟨f0, f1, f2, f3, f4, hgf⟩ := recs_c L.out.fd HRL.out hlt
        have RD := hide (L.out.read hDid.out (SRC.out _ L.out.bel) (TB.out _ L.out.bel) (by omega) (by omega) hlt (BRO.out _ (getD_mem hlt)))
        have i1 : (k : Int) < (st.ok.length : Int) := by omega
        generalize st.rs.getD k recZ = r at f0 f1 f2 f3 f4 RD
        have OC := hide (fun wx (hb : Below w5.heap.size w5 wx) => evs_c (D5.out.still hb).noted hlt)
        have BO := hide (fun wx (hb : Below w5.heap.size w5 wx) => (X5.out.below hb X5.out.lt))
        have EVR := hide (fun wx (hb : Below w5.heap.size w5 wx) => evRow_of (D5.out.still hb).noted)
        have HLB : Hid (lossB st.ok k = (!decide ((st.ok.getD k ev0).k = 3) && lostB (st.ok.drop (k + 1)) (st.ok.getD k ev0).s)) := rfl
        have HLN : Hid (lostN st.ok (k + 1) = lostN st.ok k + if lossB st.ok k = true then 1 else 0) := rfl
        generalize st.ok.getD k ev0 = e at OC HLB
        have hln := lostN_le st.ok k
        go_upto_region 19 with (
          go_at_call 43; (with_reducible refine RD.out.mono ?_); rintro x w7 ⟨rfl, hU⟩
          have U8 := hide (hU.still ((Below.refl _ w7).alloc (Nat.le_refl _) (.cells #[.func (.func 48) #[] #[.pointer (some ⟨w2.heap.size, 0, none⟩)]] 80)))
          have G8 := hide (HasR.new w7 80 #[.func (.func 48) #[] #[.pointer (some ⟨w2.heap.size, 0, none⟩)]])
          clear hU)
        clear ci f0 f1 f2 f3 f4 hgf RD
        generalize w7.alloc (.cells #[.func (.func 48) #[] #[.pointer (some ⟨w2.heap.size, 0, none⟩)]] 80) = W8 at U8 G8 ⊢
        go_cut [74] (fun s74 wx => s74 = .bool (lossB st.ok k) ∧ Lu w5 wx w4.heap.size w5.heap.size I k st (w5.alloc (.cells #[.pointer (some ⟨w4.heap.size, 0, none⟩), .int .i64 0, .string ⟨#[]⟩, .int .i64 0, .map none] 124)).heap.size (.slice (some ⟨gf, 0, none⟩) st.ok.length cf) ∧ HasR wx w7.heap.size 80 #[.func (.func 48) #[] #[.pointer (some ⟨w2.heap.size, 0, none⟩)]])
        case first =>
          obtain ⟨o0, o1, o2, o3, o4, hgo⟩ := OC.out _ U8.out.bel
          have ci : W8.cell? ⟨I, 0, none⟩ = some (.int .i64 (k : Int)) := U8.out.i.cell 0
          have cb : W8.cell? ⟨w2.heap.size, 0, none⟩ = some (.slice (some ⟨go, 0, none⟩) st.ok.length co) := (BO.out _ U8.out.bel).cell 0
          have cg : W8.cell? ⟨w7.heap.size, 0, none⟩ = some (.func (.func 48) #[] #[.pointer (some ⟨w2.heap.size, 0, none⟩)]) := G8.out.cell 0
          by_cases hk3 : e.k = 3
          · have d1 : (e.k != 3) = false := by simp [bne, hk3]
            have hlo : lossB st.ok k = false := by rw [HLB.out, decide_eq_true hk3]; rfl
            have HLO := hide hlo
            clear hk3 hlo
            go_quiet (fail)
            go_wp2
            go_meet
            exact ⟨by rw [HLO.out], U8.out.still (below_dn (Below.refl _ W8) _), G8.out.below (below_dn (Below.refl _ W8) _) G8.out.lt⟩
          · have d1 : (e.k != 3) = true := by simp [bne, hk3]
            have hlo : lossB st.ok k = lostB (st.ok.drop (k + 1)) e.s := by rw [HLB.out, decide_eq_false hk3]; rfl
            have eg : ∀ args w, (callFunc 48 args).run Tryz.prog w = .ok (.enter 48 args) w := enters_of Tryz.func48 (by kernel_rfl) rfl
            have hwr : IntKind.i64.wrap ((k : Int) + 1) = (k : Int) + 1 := by rw [IntKind.wrap_i64]; omega
            have UD := hide (U8.out.still (Below.refl _ W8).drew)
            have GF0 := goneIs_any w2.heap.size go co (k + 1) st.ok e.s W8.drew ((BO.out _ UD.out.bel).cell 0) (EVR.out _ UD.out.bel) hco hlt (by omega)
            rw [show (((k + 1 : Nat)) : Int) = (k : Int) + 1 by omega] at GF0
            have GF := hide GF0
            clear GF0 hk3
            have HLO := hide hlo
            clear hlo
            go_region_held3 (fun wx => wx.cell? ⟨w2.heap.size, 0, none⟩ = some (.slice (some ⟨go, 0, none⟩) st.ok.length co) ∧ wx.cell? ⟨I, 0, none⟩ = some (.int .i64 (k : Int)) ∧ wx.cell? ⟨go, k * 5, none⟩ = some (.int .i64 e.k) ∧ wx.cell? ⟨go, k * 5 + 1, none⟩ = some (.string e.s) ∧ wx.cell? ⟨w7.heap.size, 0, none⟩ = some (.func (.func 48) #[] #[.pointer (some ⟨w2.heap.size, 0, none⟩)])) (first | (with_reducible exact K7.out) | go_keep)
              ((go_at_fn 48; (with_reducible refine GF.out.mono ?_); rintro y w9 ⟨rfl, hb9⟩; have U9 := hide (UD.out.still hb9); have G9 := hide (G8.out.drew.below hb9 G8.out.drew.lt); obtain ⟨y0, y1, y2, y3, y4, hgy⟩ := OC.out _ U9.out.bel; have yi : w9.cell? ⟨I, 0, none⟩ = some (.int .i64 (k : Int)) := U9.out.i.cell 0; have yb : w9.cell? ⟨w2.heap.size, 0, none⟩ = some (.slice (some ⟨go, 0, none⟩) st.ok.length co) := (BO.out _ U9.out.bel).cell 0; have yg : w9.cell? ⟨w7.heap.size, 0, none⟩ = some (.func (.func 48) #[] #[.pointer (some ⟨w2.heap.size, 0, none⟩)]) := G9.out.cell 0; have K7 := hide (And.intro yb (And.intro yi (And.intro y0 (And.intro y1 yg)))); clear hb9))
            all_goals
              go_wp2
              go_meet
              exact ⟨by rw [HLO.out], U9.out, G9.out⟩
        case rest =>
          clear U8 G8
          obtain ⟨hs74, hL2, hG2⟩ := hcut
          have U := hide hL2
          have G := hide hG2
          clear hL2 hG2
          have ci : wc.cell? ⟨I, 0, none⟩ = some (.int .i64 (k : Int)) := U.out.i.cell 0
          have hj : k + 1 < vals.length := by rw [HVL.out]; omega
          have i2 : (k : Int) + 1 < (vals.length : Int) := by omega
          have hwr : IntKind.i64.wrap ((k : Int) + 1) = (k : Int) + 1 := by rw [IntKind.wrap_i64]; omega
          obtain ⟨ds, hO, hdl, _⟩ := D5.out.cells (k + 1) hj
          have CU : Hid (∀ wx, Below w5.heap.size w5 wx → RowC wx 0 (vals.getD (k + 1) nilS) ds) := hide (fun wx hb => by
            obtain ⟨ds', a, _, c⟩ := (D5.out.still hb).cells (k + 1) hj
            obtain rfl := a.eq hO
            exact c)
          have ca : wc.cell? ⟨gr, k + 1, none⟩ = some (vals.getD (k + 1) nilS) := (D5.out.still U.out.bel).rowAt hj
          have hgr : gr < wc.heap.size := block_lt_of_cell ca
          have HO := hide (hO.keepT (l := st.ok.drop (k + 1)))
          have hd2 : ds.length ≤ 100 := by omega
          have CL := hide (clone_any 0 _ ds wc (CU.out _ U.out.bel) (by omega))
          have ST := hide (fun w9 u9 (ho : w9.ownsRow wc.heap.size 59 4 u9 ds.length (cellsL ds)) (hb : Below wc.heap.size wc w9) => strike_any wc.heap.size w7.heap.size I u9 ds (fun c => lostB (st.ok.drop (k + 1)) c.s) w9 ho (by omega) (fun W x hW => by
            have hb2 : Below wc.heap.size wc W := hb.trans hW
            have U2 := U.out.still hb2
            exact goneCell_any w7.heap.size I w2.heap.size go co k st.ok x W ((G.out.below hb2 G.out.lt).cell 0) (U2.i.cell 0) ((BO.out _ U2.bel).cell 0) (EVR.out _ U2.bel) hco hlt (by omega)))
          generalize vals.getD (k + 1) nilS = u at ca CU CL
          have FN0 := fun wx (hb : Below wc.heap.size wc wx) => U.out.fin hb L.out.i hlt
          have LO0 := fun wx (hb : Below wc.heap.size wc wx) => (U.out.still hb).rl.lost
          clear hO hdl CU
          cases hlb : lossB st.ok k
          case' false =>
            have hN : lostN st.ok (k + 1) = lostN st.ok k := by rw [HLN.out, hlb]; rfl
            rw [hN] at FN0 LO0
          case' true =>
            have hN : lostN st.ok (k + 1) = lostN st.ok k + 1 := by rw [HLN.out, hlb]; rfl
            have hwl : IntKind.i64.wrap ((lostN st.ok k : Int) + 1) = ((lostN st.ok (k + 1) : Nat) : Int) := by rw [IntKind.wrap_i64, hN]; omega
          all_goals
            rw [hlb] at hs74
            subst hs74
            have FN := hide FN0
            have LO := hide LO0
            clear FN0 LO0 hN hlb
            go_wp2_with (first
              | (go_at_call 33; (with_reducible refine CL.out.mono ?_); rintro y w9 ⟨u9, rfl, ho9, hb9⟩
                 have S9 := hide (ST.out w9 u9 ho9 hb9)
                 have B9 := hide hb9
                 clear ho9 hb9)
              | (go_at_call 32; (with_reducible refine S9.out.mono ?_); rintro y w10 ⟨u10, rfl, hr10, hb10⟩
                 have B10 := hide (B9.out.trans hb10)
                 have R10 := hide hr10
                 have C10 := hide ((U.out.still B10.out).rl.cells (by omega))
                 clear hr10 hb10)
              | (go_at_call 44; (with_reducible refine C10.out.mono ?_); rintro y w11 ⟨u11, ds1, rfl, ho, hl1, hr, hb⟩
                 have hds := ho.eq HO.out
                 subst hds
                 have B11 := hide (B10.out.trans (hb.mono B10.out.size))
                 have E11 := hide (equal_any _ _ _ _ _ w11 hr (R10.out.below hb (Nat.le_refl _)) (by omega))
                 clear ho hr hb)
              | (go_at_call 28; (with_reducible refine E11.out.mono ?_); rintro y w12 ⟨rfl, hb⟩
                 have B12 := hide (B11.out.trans (hb.mono B11.out.size))
                 have L12 := hide (LO.out _ B12.out)
                 have cj : w12.cell? ⟨I, 0, none⟩ = some (.int .i64 (k : Int)) := (U.out.still B12.out).i.cell 0
                 clear hb)
              | (go_at_call 46; (with_reducible refine L12.out.mono ?_); rintro y w13 ⟨rfl, hw13⟩; obtain rfl := hw13.symm))
            exact FN.out _ B12.out
      · have ek : k = st.ok.length := by omega
        subst ek
        have hT : lateT st.ok st.ok.length = st.τ := by rw [lateT_end, hDid.out.tau]
        have C1 := hide (L.out.rl.cells (by omega))
        rw [hT] at C1
        obtain ⟨mt3, mv3, v3, hS3⟩ := SRC.out _ L.out.bel
        have S3 := hide hS3
        clear hS3 hT
        go_wp2_with (first
          | (go_at_call 44; (with_reducible refine C1.out.mono ?_); rintro y w7 ⟨u, ds, rfl, ho, hl, hr, hb⟩
             have O7 := hide ho
             have R7 := hide hr
             have B7 := hide hb
             have C2 := hide (srcCells_any _ w7 _ _ _ _ _ _ _ _ _ _ _ _ (S3.out.still hb) (by omega))
             clear ho hr hb)
          | (go_at_call 29; (with_reducible refine C2.out.mono ?_); rintro y w8 ⟨u2, ds2, rfl, ho, hl2, hr, hb⟩
             obtain rfl := ho.eq O7.out
             have B8 := hide (B7.out.trans (hb.mono B7.out.size))
             have E8 := hide (equal_any _ _ _ _ ds2 w8 (R7.out.below hb (Nat.le_refl _)) hr (by omega))
             clear ho hr hb)
          | (go_at_call 28; (with_reducible refine E8.out.mono ?_); rintro y w9 ⟨rfl, hb⟩))
        go_ret
        have hbw := B5.out.trans (L.out.bel.mono hB5)
        exact ⟨rfl, (hbw.trans (B8.out.mono hbw.size)).trans (hb.mono (hbw.trans (B8.out.mono hbw.size)).size)⟩
end Go.Proofs.YtbmiheebhinbpaaGreatDoor

namespace Go.Proofs.YtbmiheebhinbpaaGreatDoor
open Go.ChangeShapes Go.WideShapes Go.ChangeAt Go.RowKit
open Go.ChangeMaps (open_string shut_string)
set_option maxRecDepth 100000 in
theorem readerLate_lifted (os : Os) (started : os.Started) (H : Type) (enc : TypeId × Value → H) :
    ReturnsInHanded {} Tryz.checked os 9 .any (fun w args => (Rows.readerLateSpec.pre enc Tryz.prog Tryz.f9 [] false w args ∧ laidMetH Tryz.prog Rows.readerLateRow.laid w) ∧ sizedMet enc Tryz.prog Tryz.f9 (OpenSpec.ofChange Rows.readerLateSpec) false w args)
      (Rows.readerLateSpec.post enc Tryz.prog Tryz.f9 false true false false) := by
  refine returns_listed started (by kernel_rfl) Tryz.func9
    (ChangeSpec.witness_shaped (enc := enc) (C := Tryz.checked) (os := os) (X := fun w _ => laidMetH Tryz.prog Rows.readerLateRow.laid w) false (((World.holding Tryz.prog os ⟨#[], #[], []⟩).setCell ⟨1, 0, none⟩ (.iface 187 (.agg #[.pointer (some ⟨6, 38, none⟩)]))).layVars Tryz.prog dataL) #[.slice none 0 0] 8 (World.layVars_os _ _ _)
      (World.shaped_of_ZipB (by kernel_rfl) (by kernel_rfl)) (by kernel_rfl) (by kernel_rfl) (by kernel_rfl)
      (laidMetH_of_parts (show laidMet Tryz.prog dataL _ from laidMet_on (w0 := (World.holding Tryz.prog os ⟨#[], #[], []⟩).setCell ⟨1, 0, none⟩ (.iface 187 (.agg #[.pointer (some ⟨6, 38, none⟩)]))) (by simp [World.memory, World.forCall, Input.heap]) (by kernel_rfl) (by kernel_rfl)) (by kernel_rfl))) ?_
  intro W base args ds gs before hval0 hW hsh hL
  have hval : ∀ (j : Nat) t v, Tryz.f9.params[j]? = some t → args[j]? = some v → Value.okWide Tryz.prog W .any base t v := hval0
  have hW' := hW
  obtain ⟨p, q, hA0, hV, rfl, hfz, hnd⟩ := hW
  have hA : DataW.TrodAll enc Tryz.prog W 0 (fun _ => true) true Tryz.f9.params.toList args.toList ds p := hA0
  rw [Tryz.params9] at hA hval
  obtain ⟨v0, vs0, d0, ds0, p0, q0, hargs, rfl, rfl, h0, r0⟩ := trodAll_cons hA
  obtain ⟨rfl, rfl, rfl⟩ := trodAll_nil r0
  obtain rfl : args = #[v0] := by cases args; simp_all
  obtain ⟨rfl, rfl⟩ := trodVars_none hV
  letI : Inhabited Cl := ⟨cl0⟩
  letI : Inhabited Ev := ⟨ev0⟩
  obtain ⟨a0, len0, cap0, rfl⟩ := okWide_slice Tryz.underlying22 (hval 0 22 v0 rfl rfl)
  have k0 := h0
  have lt0 : ∀ x ∈ p0, x.block < W.heap.size := by obtain ⟨m, hm⟩ := k0; exact DataW.trod_lt m _ _ _ hm
  obtain ⟨es0, e0⟩ := evs_of h0
  clear hA0 hval0
  simp only [List.append_nil] at hW'
  refine (rlate_any _ es0 W (tabs_of hsh hL) e0).mono fun x W' ⟨he, bel⟩ => ?_
  subst he
  exact ⟨_, rfl, _, _, _, [], _, [], hW', trodAll_mk1 (shut_bool Tryz.underlying4 _), (trodAll_cons_mk (Below.trod laidOut (by kernel_rfl) (of_decide_eq_true (by kernel_rfl)) k0 bel lt0) (trodAll_mk0)), rfl, bel.frame _, fun h => by cases h⟩
theorem readerLate_row_holds : Rows.ReaderLateSaid :=
  OpenClaim.holds_of_wide 9 Tryz.f9 rfl rfl rfl rfl rfl rfl rfl ⟨rfl, rfl, rfl, rfl, rfl⟩ rfl rfl rfl rfl rfl (by kernel_rfl) Tryz.func9 (by kernel_rfl)
    (of_decide_eq_true (by kernel_rfl)) (by unfold Func.isWrapper; first | (rw [if_pos (by decide +kernel)]; kernel_rfl) | (rw [if_neg (by decide +kernel)]; exact ⟨rfl, rfl⟩))
    (fun os started H enc _ => readerLate_lifted os started H enc)
theorem readerLate_holds : Rows.ReaderLateCardSaid :=
  Claim7.holds_tied_plain_at .later [] [.data, .handle, .data, .data, .pinned] true (true, "8a85a5eee98c237e46004362c2271095f71e0d7e58ceece59f9257a0176131be") true
    readerLate_row_holds (fun _ h => by cases h) (by kernel_rfl) (fun _ h => by cases h) readerLate_row_tie rfl ⟨rfl, rfl⟩ (by kernel_rfl) rfl
    (fun f fn hf hfn => by
      obtain rfl : f = 9 := Option.some.inj ((show Tryz.prog.funcNamed Rows.readerLateRow.func = some 9 by kernel_rfl).symm.trans hf) |>.symm
      obtain rfl : fn = Tryz.f9 := (Option.some.inj (Tryz.func9.symm.trans hfn)).symm
      exact ⟨by kernel_rfl, fun j t ht => by
        rw [Tryz.params9] at ht
        have hm : t ∈ [22] := by simpa using Array.mem_of_getElem? ht
        have hall : ([22].all fun u => !Tryz.prog.wantsStandIn u) = true := by kernel_rfl
        exact (show Tryz.prog.wantsStandIn t = false by simpa using List.all_eq_true.1 hall t hm)⟩)
    (by kernel_rfl)
end Go.Proofs.YtbmiheebhinbpaaGreatDoor
