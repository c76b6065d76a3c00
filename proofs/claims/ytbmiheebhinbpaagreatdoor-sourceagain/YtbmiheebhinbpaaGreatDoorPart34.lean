/- For every list of events and every text: of what is not forgotten, read off a source's feed and done again at a source of that other secret, the rows are the same: SourceAgain returns true, and each argument reads behind the call as it did before. The library's type of errors, the tables of the sum and of the kinds, and the library's two tables of runes start as their texts lay them (the card ties that). -/
import Derived.Test.YtbmiheebhinbpaaGreatDoorPart33
/- Who follows may tell it on: the law's own walk. -/
namespace Go.Proofs.YtbmiheebhinbpaaGreatDoor
open Go.RowKit Go.Sort
attribute [local go_sem ↓] Go.wp_at_zero Go.wp_at_succ
set_option linter.unusedSectionVars false
variable [Inhabited Cl] [Inhabited Ev]
theorem ptrS_ne (b : Nat) (w : World) : (binOp .neq 25 (.pointer (some ⟨b, 0, none⟩)) (.pointer none)).run Tryz.prog w = .ok (.bool true) w := by kernel_rfl
set_option maxRecDepth 100000 in
set_option maxHeartbeats 400000 in
theorem vaultNew_bad (sec : ByteArray) (w : World) (h : sec.size ≠ 16) :
    Calls Tryz.prog 56 #[.string sec] w fun e w' => e = .returned (.tuple #[.pointer none, .iface 45 (.int .i64 1)]) ∧ w' = w := by
  have hz : ((sec.size : Int) != 16) = true := by simp [bne]; omega
  have hz2 : ¬ (sec.size : Int) = 16 := by omega
  go_enter Tryz.func56, Tryz.ntmps56
  go_wp2
  go_ret2
  exact ⟨rfl, rfl⟩
set_option maxRecDepth 100000 in
set_option maxHeartbeats 400000 in
theorem srcNew_bad (sec : ByteArray) (w : World) (h : sec.size ≠ 16) :
    Calls Tryz.prog 26 #[.string sec] w fun e w' => e = .returned (.tuple #[.pointer none, .iface 45 (.int .i64 1)]) ∧ w' = w := by
  have V := hide (vaultNew_bad sec w h)
  have hne := errNe
  clear h
  go_enter Tryz.func26, Tryz.ntmps26
  go_wp2_with (go_at_call 56; (with_reducible refine V.out.mono ?_); rintro x w1 ⟨rfl, hw⟩; obtain rfl := hw.symm)
  go_ret2
  exact ⟨rfl, rfl⟩
/-- What the loop has: a source, another one, the first one's records. -/
structure Ag (w0 w : World) (B Bx : Nat) (st : Hst) (other : ByteArray) (k : Nat) (base : Nat) (vf : Value) : Prop where
  src : ∃ mt mv v, Src B w (B + 2) (B + 1) B mt mv v st.ok.length st.ok.length secB st.σ st.τ st.rs ∧ ∀ j ∈ ownS (B + 2) (B + 1) B mt mv v, j < Bx
  two : ∃ m mt mv v σ rx, Src Bx w (Bx + 2) (Bx + 1) Bx mt mv v m m other σ (lateT st.ok k) rx ∧ rx.length = m ∧ m ≤ k ∧ ∀ g, vf.ownBlock = some g → g ∉ ownS (Bx + 2) (Bx + 1) Bx mt mv v
  fd : w.ownsRow base 44 5 vf st.ok.length (recsL st.rs)
  bel : Below w0.heap.size w0 w
theorem Ag.still {w0 w w' : World} {B Bx : Nat} {st : Hst} {other : ByteArray} {k base : Nat} {vf : Value} (h : Ag w0 w B Bx st other k base vf) (b : Below w.heap.size w w') : Ag w0 w' B Bx st other k base vf := by
  obtain ⟨mt, mv, v, hS, hl⟩ := h.src
  obtain ⟨m, mt2, mv2, v2, σ2, rx, hS2, h1, h2, h3⟩ := h.two
  exact ⟨⟨mt, mv, v, hS.still b, hl⟩, ⟨m, mt2, mv2, v2, σ2, rx, hS2.still b, h1, h2, h3⟩, ownsRow_below h.fd b, h.bel.trans (b.mono h.bel.size)⟩
theorem Ag.same {w0 w : World} {B Bx : Nat} {st : Hst} {other : ByteArray} {k base : Nat} {vf : Value} (h : Ag w0 w B Bx st other k base vf) (e : lateT st.ok (k + 1) = lateT st.ok k) : Ag w0 w B Bx st other (k + 1) base vf := by
  obtain ⟨m, mt2, mv2, v2, σ2, rx, hS2, h1, h2, h3⟩ := h.two
  exact ⟨h.src, ⟨m, mt2, mv2, v2, σ2, rx, by rw [e]; exact hS2, h1, by omega, h3⟩, h.fd, h.bel⟩
theorem Ag.vault {w0 w : World} {B Bx : Nat} {st : Hst} {other : ByteArray} {k base : Nat} {vf : Value} (h : Ag w0 w B Bx st other k base vf) : Calls Tryz.prog 20 #[.pointer (some ⟨B + 2, 0, none⟩)] w fun x w' => x = .returned (.pointer (some ⟨B, 0, none⟩)) ∧ w' = w := by
  obtain ⟨mt, mv, v, hS, _⟩ := h.src
  exact srcVault_any _ w _ _ _ _ _ _ _ _ _ _ _ _ hS
/-- An event is done again. -/
theorem Ag.again {w0 w : World} {B Bx : Nat} {st : Hst} {other : ByteArray} {k base : Nat} {vf : Value} (h : Ag w0 w B Bx st other k base vf) (hw : w0.heap.size ≤ Bx) (T : Tabs w) (hd : Did secB st) (hk : k < st.ok.length) (h3 : (st.ok.getD k ev0).k ≠ 3) (hl : lostB (st.ok.drop (k + 1)) (st.ok.getD k ev0).s = false) (hbr : Brief (st.ok.getD k ev0)) (h16 : other.size = 16) (hn : st.ok.length ≤ 30) (h3B : 3 < Bx) :
    Calls Tryz.prog 27 #[.pointer (some ⟨Bx + 2, 0, none⟩), .agg #[.int .i64 (st.ok.getD k ev0).k, .string (st.ok.getD k ev0).s, .string (st.ok.getD k ev0).t, .string (st.ok.getD k ev0).r, .string (st.ok.getD k ev0).v]] w fun x w' => (∃ R : Rec, x = .returned (.tuple #[.agg #[.int .i64 (R.q : Int), .string R.s, .int .i64 (R.g : Int), .string R.p, .string R.d], .nilIface])) ∧ Ag w0 w' B Bx st other (k + 1) base vf := by
  obtain ⟨mt, mv, v, hS, hlow⟩ := h.src
  obtain ⟨m, mt2, mv2, v2, σ2, rx, hS2, h1, h2, hoff⟩ := h.two
  refine (do_yes Bx w _ _ _ _ _ _ _ _ _ _ _ _ _ hS2 hbr (by omega) (by omega) (by omega) (by omega) T h3B (lateT_does hd hk h3 hl σ2)).mono ?_
  rintro x w' ⟨R, hR, rfl, ⟨mt7, m7, v7, hS7, hN⟩, hst, hb⟩
  refine ⟨⟨R, rfl⟩, ⟨mt, mv, v, hS.turned hst (fun j hj hm => ?_), hlow⟩, ⟨m + 1, mt7, some m7, v7, tellK σ2 (st.ok.getD k ev0), rx ++ [R], ?_, ?_, by omega, fun g hg hm => ?_⟩, ownsRow_turned h.fd hst hoff, h.bel.trans (hb.mono hw)⟩
  · have a := hlow j hj
    have b := hS2.lowO j hm
    omega
  · rw [lateT_step hd hk, if_neg (fun x => by rw [hl] at x; cases x.2)]
    exact hS7
  · rw [List.length_append, List.length_singleton, h1]
  · rcases hN g hm with e | e
    · exact hoff g hg e
    · have := (h.fd.lt g hg).2
      omega
set_option maxRecDepth 100000 in
set_option maxHeartbeats 8000000 in
theorem again_any (v : Value) (es : List Ev) (other : ByteArray) (w : World) (T : Tabs w) (hv : EvRow w v es) :
    Calls Tryz.prog 5 #[v, .string other] w fun x w' => x = .returned (.bool true) ∧ Below w.heap.size w w' := by
  have F := hide (few_any v es w hv)
  have TK := T.k.lt
  have TT := hide T
  have HV := hide hv
  obtain ⟨ao, cap, rfl⟩ := hv.slice
  clear hv T
  cases hf : fewB es
  · rw [hf] at F
    go_enter Tryz.func5, Tryz.ntmps5
    go_wp2_with (go_at_call 12; (with_reducible refine F.out.mono ?_); rintro x w1 ⟨rfl, hb1⟩)
    go_ret
    exact ⟨rfl, hb1⟩
  · rw [hf] at F
    obtain ⟨h30, hbr⟩ := few_brief hf
    have BR := hide hbr
    clear hf hbr
    by_cases h40 : 40 < other.size
    · have d1 : decide ((40 : Int) < (other.size : Int)) = true := by simp; omega
      have d2 : (40 : Int) < (other.size : Int) := by omega
      go_enter Tryz.func5, Tryz.ntmps5
      go_wp2_with (go_at_call 12; (with_reducible refine F.out.mono ?_); rintro x w1 ⟨rfl, hb1⟩)
      go_ret
      exact ⟨rfl, hb1⟩
    · have d1 : decide ((40 : Int) < (other.size : Int)) = false := by simp; omega
      have d2 : ¬ (40 : Int) < (other.size : Int) := by omega
      have hps := ptrS_nil
      have hne := nilNe
      have hDid := hide (Did.hist (sec := secB) es Did.none)
      have hfew := hist_few (sec := secB) es hst0
      have hf0 : hst0.ok.length = 0 := rfl
      have BRO := hide (fun e (he : e ∈ (hist secB es hst0).ok) => BR.out e (by rcases hist_sub (sec := secB) es hst0 e he with h | h; (simp [hst0] at h); (exact h)))
      have DA := hide (fun wx (hb : Below w.heap.size w wx) => done_any (.slice ao es.length cap) es wx (TT.out.below hb TK) (HV.out.turned hb (Nat.le_refl _)) (by omega) BR.out)
      generalize hist secB es hst0 = st at hDid hfew DA BRO
      have hok : st.ok.length ≤ 30 := by omega
      have HRL := hide hDid.out.recs.1
      clear hfew hf0
      by_cases h16 : other.size = 16
      · have NW := hide (fun wx => srcNew_ok other wx h16)
        have H16 := hide h16
        clear h40 h16
        go_enter Tryz.func5, Tryz.ntmps5
        go_wp2_with (first
          | (go_at_call 12; (with_reducible refine F.out.mono ?_); rintro x w1 ⟨rfl, hb1⟩
             have B1 := hide hb1
             have F2 := hide (fed_any w1 (TT.out.below hb1 TK))
             clear hb1)
          | (go_at_call 13; (with_reducible refine F2.out.mono ?_); rintro x w2 ⟨rfl, hb2⟩
             have B2 := hide (B1.out.trans (hb2.mono B1.out.size))
             have F3 := hide (applied_any w2)
             clear hb2)
          | (go_at_call 25; (with_reducible refine F3.out.mono ?_); rintro x w3 ⟨rfl, hb3⟩
             have B3 := hide (B2.out.trans (hb3.mono B2.out.size))
             clear hb3)
          | (go_at_call 14; (with_reducible refine (DA.out _ B3.out).mono ?_); rintro x w4 ⟨vok, vrows, vals, rfl, hD, hvl, hb4⟩
             have B4 := hide (B3.out.trans (hb4.mono B3.out.size))
             have D4 := hide hD
             clear hD hb4)
          | (go_at_call 26; (with_reducible refine (NW.out _).mono ?_); rintro x w5 ⟨rfl, hS5, hb5⟩
             have B5 := hide (B4.out.trans (hb5.mono B4.out.size))
             have X5 := hide hS5
             have X5B := hide hb5
             obtain ⟨mt, mv, vv, hS, _⟩ := (D4.out.still hb5).src
             have FE := hide (srcFeed_any _ _ _ _ _ _ _ _ _ _ _ _ _ _ hS (by rw [HRL.out]; omega))
             clear hS5 hb5 hS)
          | (go_at_call 15; (with_reducible refine FE.out.mono ?_); rintro x w6 ⟨vf, rfl, hr6, hb6⟩
             rw [HRL.out] at hr6
             have B6 := hide (B5.out.trans (hb6.mono B5.out.size))
             have L0 : Hid (Ag w w6 w3.heap.size w4.heap.size st other 0 w5.heap.size vf) := by
               obtain ⟨mt4, mv4, v4, hS4, _⟩ := D4.out.src
               refine ⟨⟨mt4, mv4, v4, (hS4.still (X5B.out.trans (hb6.mono X5B.out.size))), hS4.oldO⟩, ⟨0, none, none, .slice none 0 0, kept0, [], by rw [lateT_start]; exact X5.out.still hb6, rfl, Nat.zero_le _, fun g hg hm => ?_⟩, hr6, B6.out⟩
               have a := (hr6.lt g hg).1
               have b := X5.out.oldO g hm
               omega
             obtain ⟨pf, cf, rfl⟩ := ownsRow_slice hr6
             clear hr6 hb6 FE))
        clear F DA B1 B2 F2 F3 D4 X5 X5B B5 NW
        have hB4 := B4.out.size
        have hB3 := B3.out.size
        go_loopw [11] (fun i wr => ∃ k : Nat, i = .int .i64 k ∧ k ≤ st.ok.length ∧ Ag w wr w3.heap.size w4.heap.size st other k w5.heap.size (.slice pf st.ok.length cf)) (fun i _ => st.ok.length - (intOf i).toNat)
        case atStart => exact ⟨0, rfl, Nat.zero_le _, L0.out⟩
        case round =>
          clear L0
          obtain ⟨k, rfl, hk, hI⟩ := hrel
          have L := hide hI
          clear hI
          by_cases hlt : k < st.ok.length
          · obtain ⟨hRO, hq, hpr⟩ := hDid.out.recs.2 k hlt
            obtain ⟨mt9, mv9, v9, hS9, _⟩ := L.out.src
            have hfit : Fit (st.rs.getD k recZ) := hS9.fit _ (getD_mem (by rw [HRL.out]; exact hlt))
            obtain ⟨x, er, hx, hO⟩ := open_either hRO hfit
            obtain ⟨gf, rfl, _⟩ := block_of L.out.fd (by omega)
            have FC := hide (fun wx (h : Ag w wx w3.heap.size w4.heap.size st other k w5.heap.size (.slice (some ⟨gf, 0, none⟩) st.ok.length cf)) => recs_c h.fd HRL.out hlt)
            have HX := hide hx
            have HO := hide (fun wx (h : Ag w wx w3.heap.size w4.heap.size st other k w5.heap.size (.slice (some ⟨gf, 0, none⟩) st.ok.length cf)) (t : Tabs wx) => (by obtain ⟨mt', mv', v', hS', _⟩ := h.src; exact hO _ _ _ _ _ _ _ _ _ _ _ _ hS' t : Calls Tryz.prog 19 #[.pointer (some ⟨w3.heap.size, 0, none⟩), .agg #[.int .i64 ((st.rs.getD k recZ).q : Int), .string (st.rs.getD k recZ).s, .int .i64 ((st.rs.getD k recZ).g : Int), .string (st.rs.getD k recZ).p, .string (st.rs.getD k recZ).d]] wx fun y w' => y = .returned (.tuple #[.agg #[.int .i64 x.k, .string x.s, .string x.t, .string x.r, .string x.v], er]) ∧ Below wx.heap.size wx w'))
            have DO := hide (fun wx (h : Ag w wx w3.heap.size w4.heap.size st other k w5.heap.size (.slice (some ⟨gf, 0, none⟩) st.ok.length cf)) (t : Tabs wx) h3 hl => h.again (by omega) t hDid.out hlt h3 hl (BRO.out _ (getD_mem hlt)) H16.out hok (by omega))
            have SG := hide (fun h3 => lateT_gone hDid.out hlt h3)
            have SL := hide (lateT_step hDid.out hlt)
            clear hRO hq hpr hfit hx hO hS9
            have i1 : (k : Int) < (st.ok.length : Int) := by omega
            generalize lostB (st.ok.drop (k + 1)) (st.ok.getD k ev0).s = lo at HX DO SL
            generalize st.ok.getD k ev0 = e at HX DO SG SL
            generalize st.rs.getD k recZ = r at FC HO
            obtain ⟨f0, f1, f2, f3, f4, hgf⟩ := FC.out _ L.out
            go_upto_region 13 with fail
            have LS1 := hide (L.out.still (Below.refl _ wr).drew)
            have LS2 := hide (L.out.still ((Below.refl _ wr).alloc (Nat.le_refl _) (.cells #[.int .i64 0, .string ⟨#[]⟩, .string ⟨#[]⟩, .string ⟨#[]⟩, .string ⟨#[]⟩] 35)).drew)
            have ne3 : wr.heap.size ≠ gf := by omega
            have ne4 : gf ≠ wr.heap.size := by omega
            go_cut [12, 13] (fun s11 s12 wx => ∃ be : Nat, s11 = .pointer (some ⟨be, 0, none⟩) ∧ s12 = er ∧ HasR wx be 35 #[.int .i64 x.k, .string x.s, .string x.t, .string x.r, .string x.v] ∧ Ag w wx w3.heap.size w4.heap.size st other k w5.heap.size (.slice (some ⟨gf, 0, none⟩) st.ok.length cf))
            case first =>
              go_region_held3 (fun wx => wx.cell? ⟨gf, k * 5, none⟩ = some (.int .i64 (r.q : Int)) ∧ wx.cell? ⟨gf, k * 5 + 1, none⟩ = some (.string r.s) ∧ wx.cell? ⟨gf, k * 5 + 2, none⟩ = some (.int .i64 (r.g : Int)) ∧ wx.cell? ⟨gf, k * 5 + 3, none⟩ = some (.string r.p) ∧ wx.cell? ⟨gf, k * 5 + 4, none⟩ = some (.string r.d)) (first | (with_reducible exact K7.out) | go_keep)
                (first
                | (go_at_call 20; (with_reducible refine LS1.out.vault.mono ?_); rintro y w6 ⟨rfl, hw6⟩; obtain rfl := hw6.symm)
                | (go_at_call 20; (with_reducible refine LS2.out.vault.mono ?_); rintro y w6 ⟨rfl, hw6⟩; obtain rfl := hw6.symm)
                | (go_at_call 19; (with_reducible refine (HO.out _ LS1.out (TT.out.below LS1.out.bel TK)).mono ?_); rintro y w7 ⟨rfl, hb7⟩; have L7 := hide (LS1.out.still hb7); have B7 := hide ((Below.refl wr.heap.size wr).drew.trans (hb7.mono (Below.refl wr.heap.size wr).drew.size)); obtain ⟨y0, y1, y2, y3, y4, lg7⟩ := FC.out _ L7.out; have K7 := hide (And.intro y0 (And.intro y1 (And.intro y2 (And.intro y3 y4)))); have ne7 : w7.heap.size ≠ gf := (by omega); have ne8 : gf ≠ w7.heap.size := (by omega); clear hb7)
                | (go_at_call 19; (with_reducible refine (HO.out _ LS2.out (TT.out.below LS2.out.bel TK)).mono ?_); rintro y w7 ⟨rfl, hb7⟩; have L7 := hide (LS2.out.still hb7); have X7 := hide ((HasR.new wr 35 #[.int .i64 0, .string ⟨#[]⟩, .string ⟨#[]⟩, .string ⟨#[]⟩, .string ⟨#[]⟩]).drew.below hb7 (HasR.new wr 35 _).drew.lt); have B7 := hide (((Below.refl wr.heap.size wr).alloc (Nat.le_refl _) (.cells #[.int .i64 0, .string ⟨#[]⟩, .string ⟨#[]⟩, .string ⟨#[]⟩, .string ⟨#[]⟩] 35)).drew.trans (hb7.mono ((Below.refl wr.heap.size wr).alloc (Nat.le_refl _) (.cells #[.int .i64 0, .string ⟨#[]⟩, .string ⟨#[]⟩, .string ⟨#[]⟩, .string ⟨#[]⟩] 35)).drew.size)); obtain ⟨y0, y1, y2, y3, y4, lg7⟩ := FC.out _ L7.out; have K7 := hide (And.intro y0 (And.intro y1 (And.intro y2 (And.intro y3 y4)))); have z0 : w7.cell? ⟨wr.heap.size, 0, none⟩ = some (.int .i64 0) := X7.out.cell 0; have z1 : w7.cell? ⟨wr.heap.size, 1, none⟩ = some (.string ⟨#[]⟩) := X7.out.cell 1; have z2 : w7.cell? ⟨wr.heap.size, 2, none⟩ = some (.string ⟨#[]⟩) := X7.out.cell 2; have z3 : w7.cell? ⟨wr.heap.size, 3, none⟩ = some (.string ⟨#[]⟩) := X7.out.cell 3; have z4 : w7.cell? ⟨wr.heap.size, 4, none⟩ = some (.string ⟨#[]⟩) := X7.out.cell 4; have o0 : w7.frozen? ⟨wr.heap.size, 0, none⟩ = false := X7.out.free 0; have o1 : w7.frozen? ⟨wr.heap.size, 1, none⟩ = false := X7.out.free 1; have o2 : w7.frozen? ⟨wr.heap.size, 2, none⟩ = false := X7.out.free 2; have o3 : w7.frozen? ⟨wr.heap.size, 3, none⟩ = false := X7.out.free 3; have o4 : w7.frozen? ⟨wr.heap.size, 4, none⟩ = false := X7.out.free 4; clear hb7))
              all_goals
                go_wp2
                go_meet
                first
                  | exact ⟨wr.heap.size, rfl, rfl, HasR.five X7.out _ _ _ _ _, L.out.still (B7.out.trans ((stir5 w7 wr.heap.size _ _ _ _ _).below B7.out.size (fun j hj => by simp at hj; omega)))⟩
                  | exact ⟨w7.heap.size, rfl, rfl, HasR.new w7 35 _, L7.out.still ((Below.refl _ w7).alloc (Nat.le_refl _) _)⟩
            case rest =>
              clear f0 f1 f2 f3 f4 hgf LS1 LS2 ne3 ne4
              obtain ⟨be, rfl, hs12, hXE, hL3⟩ := hcut
              have L3 := hide hL3
              have XE := hide hXE
              clear hL3 hXE
              have x0 : wc.cell? ⟨be, 0, none⟩ = some (.int .i64 x.k) := XE.out.cell 0
              have x1 : wc.cell? ⟨be, 1, none⟩ = some (.string x.s) := XE.out.cell 1
              have x2 : wc.cell? ⟨be, 2, none⟩ = some (.string x.t) := XE.out.cell 2
              have x3 : wc.cell? ⟨be, 3, none⟩ = some (.string x.r) := XE.out.cell 3
              have x4 : wc.cell? ⟨be, 4, none⟩ = some (.string x.v) := XE.out.cell 4
              rcases HX.out with ⟨hk3, hlo, rfl, rfl⟩ | ⟨hnl, rfl, rfl⟩
              · subst hs12 hlo
                have hen := errNe
                have SM := hide (L3.out.same (by rw [SL.out, if_pos ⟨hk3, rfl⟩]))
                clear hk3
                go_wp2
                exact ⟨⟨k + 1, by go_num, by omega, SM.out⟩, by simp [intOf]; omega⟩
              · subst hs12
                by_cases hk3 : x.k = 3
                · have d3 : (x.k == 3) = true := by simp [hk3]
                  have SM := hide (L3.out.same (SG.out hk3))
                  clear hk3 hnl
                  go_wp2
                  exact ⟨⟨k + 1, by go_num, by omega, SM.out⟩, by simp [intOf]; omega⟩
                · have d3 : (x.k == 3) = false := by simp [hk3]
                  have hlo : lo = false := by
                    cases lo
                    · rfl
                    · exact absurd ⟨hk3, rfl⟩ hnl
                  have DC := hide (DO.out wc L3.out (TT.out.below L3.out.bel TK) hk3 hlo)
                  clear hk3 hnl hlo
                  go_wp2_with (
                    go_at_call 27; (with_reducible refine DC.out.mono ?_); rintro y w8 ⟨⟨R, rfl⟩, hA8⟩
                    have SM := hide (hA8.still ((Below.refl _ w8).alloc (Nat.le_refl _) (.cells #[.int .i64 (R.q : Int), .string R.s, .int .i64 (R.g : Int), .string R.p, .string R.d] 44)))
                    clear hA8)
                  exact ⟨⟨k + 1, by go_num, by omega, SM.out⟩, by simp [intOf]; omega⟩
          · have ek : k = st.ok.length := by omega
            subst ek
            have hT : lateT st.ok st.ok.length = st.τ := by rw [lateT_end, hDid.out.tau]
            obtain ⟨m, mt2, mv2, v2, σ2, rx, hS2, h1, h2, _⟩ := L.out.two
            rw [hT] at hS2
            have C1 := hide (srcCells_any _ wr _ _ _ _ _ _ _ _ _ _ _ _ hS2 (by omega))
            obtain ⟨mt3, mv3, v3, hS3, _⟩ := L.out.src
            have S3 := hide hS3
            clear hS2 hS3 hT
            go_wp2_with (first
              | (go_at_call 29; (with_reducible refine C1.out.mono ?_); rintro y w7 ⟨u, ds, rfl, ho, hl, hr, hb⟩
                 have O7 := hide ho
                 have R7 := hide hr
                 have B7 := hide hb
                 have C2 := hide (srcCells_any _ w7 _ _ _ _ _ _ _ _ _ _ _ _ (S3.out.still hb) (by omega))
                 clear ho hr hb)
              | (go_at_call 29; (with_reducible refine C2.out.mono ?_); rintro y w8 ⟨u2, ds2, rfl, ho, hl2, hr, hb⟩
                 obtain rfl := ho.eq O7.out
                 have B8 := hide (B7.out.trans (hb.mono B7.out.size))
                 have E8 := hide (equal_any _ _ _ _ ds2 w8 (R7.out.below hb (Nat.le_refl _)) hr (by omega))
                 clear ho hr hb)
              | (go_at_call 28; (with_reducible refine E8.out.mono ?_); rintro y w9 ⟨rfl, hb⟩))
            go_ret
            exact ⟨rfl, (L.out.bel.trans (B8.out.mono L.out.bel.size)).trans (hb.mono (L.out.bel.trans (B8.out.mono L.out.bel.size)).size)⟩
      · have NW := hide (fun wx => srcNew_bad other wx h16)
        have hen := errNe
        have hz : ((other.size : Int) != 16) = true := by simp [bne]; omega
        have hz2 : ¬ (other.size : Int) = 16 := by omega
        have hpn := ptrS_ne
        clear h40
        go_enter Tryz.func5, Tryz.ntmps5
        go_wp2_with (first
          | (go_at_call 12; (with_reducible refine F.out.mono ?_); rintro x w1 ⟨rfl, hb1⟩
             have B1 := hide hb1
             have F2 := hide (fed_any w1 (TT.out.below hb1 TK))
             clear hb1)
          | (go_at_call 13; (with_reducible refine F2.out.mono ?_); rintro x w2 ⟨rfl, hb2⟩
             have B2 := hide (B1.out.trans (hb2.mono B1.out.size))
             have F3 := hide (applied_any w2)
             clear hb2)
          | (go_at_call 25; (with_reducible refine F3.out.mono ?_); rintro x w3 ⟨rfl, hb3⟩
             have B3 := hide (B2.out.trans (hb3.mono B2.out.size))
             clear hb3)
          | (go_at_call 14; (with_reducible refine (DA.out _ B3.out).mono ?_); rintro x w4 ⟨vok, vrows, vals, rfl, hD, hvl, hb4⟩
             have B4 := hide (B3.out.trans (hb4.mono B3.out.size))
             clear hD hb4)
          | (go_at_call 26; (with_reducible refine (NW.out _).mono ?_); rintro x w5 ⟨rfl, hw5⟩; obtain rfl := hw5.symm))
        go_ret
        exact ⟨rfl, B4.out⟩
end Go.Proofs.YtbmiheebhinbpaaGreatDoor

namespace Go.Proofs.YtbmiheebhinbpaaGreatDoor
open Go.ChangeShapes Go.WideShapes Go.ChangeAt Go.RowKit
open Go.ChangeMaps (open_string shut_string)
set_option maxRecDepth 100000 in
theorem sourceAgain_lifted (os : Os) (started : os.Started) (H : Type) (enc : TypeId × Value → H) :
    ReturnsInHanded {} Tryz.checked os 5 .any (fun w args => (Rows.sourceAgainSpec.pre enc Tryz.prog Tryz.f5 [] false w args ∧ laidMetH Tryz.prog Rows.sourceAgainRow.laid w) ∧ sizedMet enc Tryz.prog Tryz.f5 (OpenSpec.ofChange Rows.sourceAgainSpec) false w args)
      (Rows.sourceAgainSpec.post enc Tryz.prog Tryz.f5 false true false false) := by
  refine returns_listed started (by kernel_rfl) Tryz.func5
    (ChangeSpec.witness_shaped (enc := enc) (C := Tryz.checked) (os := os) (X := fun w _ => laidMetH Tryz.prog Rows.sourceAgainRow.laid w) false (((World.holding Tryz.prog os ⟨#[], #[], []⟩).setCell ⟨1, 0, none⟩ (.iface 187 (.agg #[.pointer (some ⟨6, 38, none⟩)]))).layVars Tryz.prog dataL) #[.slice none 0 0, .string ByteArray.empty] 8 (World.layVars_os _ _ _)
      (World.shaped_of_ZipB (by kernel_rfl) (by kernel_rfl)) (by kernel_rfl) (by kernel_rfl) (by kernel_rfl)
      (laidMetH_of_parts (show laidMet Tryz.prog dataL _ from laidMet_on (w0 := (World.holding Tryz.prog os ⟨#[], #[], []⟩).setCell ⟨1, 0, none⟩ (.iface 187 (.agg #[.pointer (some ⟨6, 38, none⟩)]))) (by simp [World.memory, World.forCall, Input.heap]) (by kernel_rfl) (by kernel_rfl)) (by kernel_rfl))) ?_
  intro W base args ds gs before hval0 hW hsh hL
  have hval : ∀ (j : Nat) t v, Tryz.f5.params[j]? = some t → args[j]? = some v → Value.okWide Tryz.prog W .any base t v := hval0
  have hW' := hW
  obtain ⟨p, q, hA0, hV, rfl, hfz, hnd⟩ := hW
  have hA : DataW.TrodAll enc Tryz.prog W 0 (fun _ => true) true Tryz.f5.params.toList args.toList ds p := hA0
  rw [Tryz.params5] at hA hval
  obtain ⟨v0, vs0, d0, ds0, p0, q0, hargs, rfl, rfl, h0, r0⟩ := trodAll_cons hA
  obtain ⟨v1, vs1, d1, ds1, p1, q1, rfl, rfl, rfl, h1, r1⟩ := trodAll_cons r0
  obtain ⟨rfl, rfl, rfl⟩ := trodAll_nil r1
  obtain rfl : args = #[v0, v1] := by cases args; simp_all
  obtain ⟨rfl, rfl⟩ := trodVars_none hV
  letI : Inhabited Cl := ⟨cl0⟩
  letI : Inhabited Ev := ⟨ev0⟩
  obtain ⟨a0, len0, cap0, rfl⟩ := okWide_slice Tryz.underlying22 (hval 0 22 v0 rfl rfl)
  have k0 := h0
  have lt0 : ∀ x ∈ p0, x.block < W.heap.size := by obtain ⟨m, hm⟩ := k0; exact DataW.trod_lt m _ _ _ hm
  obtain ⟨es0, e0⟩ := evs_of h0
  obtain ⟨s1, rfl, rfl, rfl, hs1⟩ := open_string Tryz.underlying9 (hval 1 9 v1 rfl rfl) h1
  clear hA0 hval0
  simp only [List.append_nil] at hW'
  refine (again_any _ es0 s1 W (tabs_of hsh hL) e0).mono fun x W' ⟨he, bel⟩ => ?_
  subst he
  exact ⟨_, rfl, _, _, _, [], _, [], hW', trodAll_mk1 (shut_bool Tryz.underlying4 _), (trodAll_cons_mk (Below.trod laidOut (by kernel_rfl) (of_decide_eq_true (by kernel_rfl)) k0 bel lt0) (trodAll_cons_mk (shut_string Tryz.underlying9 hs1) (trodAll_mk0))), rfl, bel.frame _, fun h => by cases h⟩
theorem sourceAgain_row_holds : Rows.SourceAgainSaid :=
  OpenClaim.holds_of_wide 5 Tryz.f5 rfl rfl rfl rfl rfl rfl rfl ⟨rfl, rfl, rfl, rfl, rfl⟩ rfl rfl rfl rfl rfl (by kernel_rfl) Tryz.func5 (by kernel_rfl)
    (of_decide_eq_true (by kernel_rfl)) (by unfold Func.isWrapper; first | (rw [if_pos (by decide +kernel)]; kernel_rfl) | (rw [if_neg (by decide +kernel)]; exact ⟨rfl, rfl⟩))
    (fun os started H enc _ => sourceAgain_lifted os started H enc)
theorem sourceAgain_holds : Rows.SourceAgainCardSaid :=
  Claim7.holds_tied_plain_at .later [] [.data, .handle, .data, .data, .pinned] true (true, "8a85a5eee98c237e46004362c2271095f71e0d7e58ceece59f9257a0176131be") true
    sourceAgain_row_holds (fun _ h => by cases h) (by kernel_rfl) (fun _ h => by cases h) sourceAgain_row_tie rfl ⟨rfl, rfl⟩ (by kernel_rfl) rfl
    (fun f fn hf hfn => by
      obtain rfl : f = 5 := Option.some.inj ((show Tryz.prog.funcNamed Rows.sourceAgainRow.func = some 5 by kernel_rfl).symm.trans hf) |>.symm
      obtain rfl : fn = Tryz.f5 := (Option.some.inj (Tryz.func5.symm.trans hfn)).symm
      exact ⟨by kernel_rfl, fun j t ht => by
        rw [Tryz.params5] at ht
        have hm : t ∈ [22, 9] := by simpa using Array.mem_of_getElem? ht
        have hall : ([22, 9].all fun u => !Tryz.prog.wantsStandIn u) = true := by kernel_rfl
        exact (show Tryz.prog.wantsStandIn t = false by simpa using List.all_eq_true.1 hall t hm)⟩)
    (by kernel_rfl)
end Go.Proofs.YtbmiheebhinbpaaGreatDoor
