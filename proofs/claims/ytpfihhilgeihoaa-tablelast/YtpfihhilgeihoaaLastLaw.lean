/- THE LAST ONE IS TRUE: the law's walk. -/
import Derived.Test.YtpfihhilgeihoaaLast
namespace Go.Proofs.Ytpfihhilgeihoaa
open Go.RowKit Go.Sort
attribute [local go_sem ↓] Go.wp_at_zero Go.wp_at_succ
set_option linter.unusedSectionVars false
variable [Inhabited Cl] [Inhabited Ev]
set_option maxRecDepth 100000 in
set_option maxHeartbeats 4000000 in
theorem last_main (v1 : Value) (es : List Ev) (W : World) (h1 : EvRow W v1 es) (f1 : fewB es = true) :
    Calls Try.prog 4 #[v1] W fun x w' => x = .returned (.bool true) ∧ Below W.heap.size W w' := by
  have bel0 : Below W.heap.size W (W.alloc (.cells #[v1] 29)) := (Below.refl _ W).alloc (Nat.le_refl _) _
  have hE0 : HasR (W.alloc (.cells #[v1] 29)) W.heap.size 29 #[v1] := HasR.new W 29 _
  have F1 := hide (few_any v1 es _ (h1.turned bel0 (Nat.le_refl _)))
  rw [f1] at F1
  have AP := hide (fun wx => applied_any wx)
  have hla := (few_brief f1).1
  have HB := hide (few_brief f1).2
  have H1 := hide h1
  have E0 := hide hE0
  have B0 := hide bel0
  obtain ⟨ao1, cap1, rfl⟩ := h1.slice
  clear h1 f1 bel0 hE0
  go_enter Try.func4, Try.ntmps4
  go_wp2_with (first
    | (go_at_call 10; (with_reducible refine F1.out.mono ?_); rintro x w1 ⟨rfl, hb1⟩
       have E1 := hide (E0.out.below hb1 E0.out.lt)
       have B1 := hide (B0.out.trans (hb1.mono B0.out.size))
       clear hb1)
    | (go_at_call 11; (with_reducible refine (AP.out _).mono ?_); rintro x w3 ⟨rfl, hb4⟩
       have E3 := hide (E1.out.below hb4 E1.out.lt)
       have B3 := hide (B1.out.trans (hb4.mono B1.out.size))
       clear hb4))
  have HL := hide (solo_new B3.out E3.out)
  clear F1 AP E0 E1 E3 B0 B1
  go_loopw [4] (fun i wr => ∃ (k : Nat) (mx : Option Nat), k ≤ es.length ∧ i = .int .i64 k ∧ Solo W wr w3.heap.size mx k (runs (es.take k) tab0) (.slice ao1 es.length cap1)) (fun i _ => es.length - (intOf i).toNat)
  case atStart => exact ⟨0, none, Nat.zero_le _, rfl, HL.out⟩
  case round =>
    clear HL
    obtain ⟨k, mx, hk, rfl, hT⟩ := hrel
    have T := hide hT
    clear hT
    have cl : wr.cell? ⟨W.heap.size, 0, none⟩ = some (.slice ao1 es.length cap1) := T.out.box.cell 0
    by_cases hlt : k < es.length
    · have HR := hide (runs_take (es := es) (k := k) hlt tab0)
      have HBe := hide (HB.out _ (mem_at hlt))
      obtain ⟨b, off, rfl, hcap, hc⟩ := H1.out.spot hlt
      have HC := hide hc
      clear hc
      generalize es[k]! = f at HC HR HBe
      have Td := hide (T.out.still (Below.refl _ wr).drew)
      have P := hide (apply_any w3.heap.size mx f k _ wr.drew HBe.out (by omega) Td.out.x)
      obtain ⟨_, c0, c1, c2, c3, c4⟩ := T.out.keep HC.out
      cases hrb : rightB f
      · rw [errOf_no hrb] at P
        have hne := err_eq
        go_wp2
        go_region_held3 (fun wx => wx.cell? ⟨W.heap.size, 0, none⟩ = some (.slice (some ⟨b, off, none⟩) es.length cap1) ∧ wx.cell? ⟨b, off + k * 5, none⟩ = some (.int .i64 f.k) ∧ wx.cell? ⟨b, off + k * 5 + 1, none⟩ = some (.string f.s) ∧ wx.cell? ⟨b, off + k * 5 + 2, none⟩ = some (.string f.t) ∧ wx.cell? ⟨b, off + k * 5 + 3, none⟩ = some (.string f.r) ∧ wx.cell? ⟨b, off + k * 5 + 4, none⟩ = some (.string f.v)) (first | (with_reducible exact K7.out) | (with_reducible exact K6.out) | go_keep)
          (first
          | (go_at_call 12; (with_reducible refine P.out.mono ?_); rintro x w6 ⟨rfl, mx', hu⟩; have T6 := hide (Td.out.step hu); have K6 := hide (T6.out.keep HC.out); have R6 := hide (rightE_any f.k f.s f.t f.r f.v w6); rw [show (⟨f.k, f.s, f.t, f.r, f.v⟩ : Ev) = f from rfl, hrb] at R6; clear hu)
          | (go_at_call 13; (with_reducible refine R6.out.mono ?_); rintro x w7 ⟨rfl, hb7⟩; have T7 := hide (T6.out.still hb7); have K7 := hide (T7.out.keep HC.out); clear hb7))
        go_wp2
        exact ⟨⟨k + 1, mx', by omega, by go_num, by rw [HR.out]; exact T7.out⟩, by simp [intOf]; omega⟩
      · rw [errOf_yes hrb] at P
        have hne := nilIface_eq
        go_wp2
        go_region_held3 (fun wx => wx.cell? ⟨W.heap.size, 0, none⟩ = some (.slice (some ⟨b, off, none⟩) es.length cap1) ∧ wx.cell? ⟨b, off + k * 5, none⟩ = some (.int .i64 f.k) ∧ wx.cell? ⟨b, off + k * 5 + 1, none⟩ = some (.string f.s) ∧ wx.cell? ⟨b, off + k * 5 + 2, none⟩ = some (.string f.t) ∧ wx.cell? ⟨b, off + k * 5 + 3, none⟩ = some (.string f.r) ∧ wx.cell? ⟨b, off + k * 5 + 4, none⟩ = some (.string f.v)) (first | (with_reducible exact K7.out) | (with_reducible exact K6.out) | go_keep)
          (first
          | (go_at_call 12; (with_reducible refine P.out.mono ?_); rintro x w6 ⟨rfl, mx', hu⟩; have T6 := hide (Td.out.step hu); have K6 := hide (T6.out.keep HC.out); have R6 := hide (rightE_any f.k f.s f.t f.r f.v w6); rw [show (⟨f.k, f.s, f.t, f.r, f.v⟩ : Ev) = f from rfl, hrb] at R6; clear hu)
          | (go_at_call 13; (with_reducible refine R6.out.mono ?_); rintro x w7 ⟨rfl, hb7⟩; have T7 := hide (T6.out.still hb7); have K7 := hide (T7.out.keep HC.out); clear hb7))
        go_wp2
        exact ⟨⟨k + 1, mx', by omega, by go_num, by rw [HR.out]; exact T7.out⟩, by simp [intOf]; omega⟩
    · have hke : k = es.length := by omega
      have hT2 := T.out
      rw [hke, List.take_length] at hT2
      subst hke
      clear T cl
      have T := hide hT2
      clear hT2 hk hlt
      have C1 := hide (cells_any w3.heap.size mx es.length _ wr (by omega) T.out.x)
      have cl : wr.cell? ⟨W.heap.size, 0, none⟩ = some (.slice ao1 es.length cap1) := T.out.box.cell 0
      go_wp2_with (go_at_call 14; (with_reducible refine C1.out.mono ?_); rintro x w4 ⟨v0, ds, rfl, o0, n0, r0, hb⟩; obtain ⟨pp, cc, rfl⟩ := r0.len; have T4 := hide (T.out.still hb); have O0 := hide o0; have R4 := hide r0; clear hb o0 r0)
      obtain ⟨BASE, hBASE⟩ : ∃ n, n = wr.heap.size := ⟨_, rfl⟩
      rw [← hBASE] at R4
      have hsm := hide (fun c (hc : c ∈ ds) => T4.out.x.small ((O0.out.2 c).1 hc))
      clear cl
      go_loopw [6] (fun p wr2 => ∃ (j : Nat), j ≤ ds.length ∧ p = .int .i64 j ∧ Solo W wr2 w3.heap.size mx es.length (runs es tab0) (.slice ao1 es.length cap1) ∧ RowC wr2 BASE (.slice pp ds.length cc) ds) (fun p _ => ds.length - (intOf p).toNat)
      case atStart => exact ⟨0, Nat.zero_le _, rfl, T4.out, R4.out⟩
      case round =>
        clear T T4 R4 C1
        obtain ⟨j, hj, rfl, hTj, hRj⟩ := hrel
        have T := hide hTj
        have R := hide hRj
        clear hTj hRj
        by_cases hlt2 : j < ds.length
        · have hs := hsm.out _ (mem_atC hlt2)
          obtain ⟨c, hc⟩ : ∃ c, ds[j]! = c := ⟨_, rfl⟩
          obtain ⟨g, rfl, hg, c0, c1, c2, c3⟩ := R.out.at hlt2
          rw [hc] at c0 c1 c2 c3 hs
          have HC := hide hc
          have HG := hide (getV_some (c := c) ((O0.out.2 c).1 (by rw [← hc]; exact mem_atC hlt2)))
          have G := hide (fun (wx : World) (hw : Below wr.heap.size wr wx) => (get_any w3.heap.size mx c.t c.r es.length _ wx hs.t hs.r (T.out.x.below hw)).mono fun x w' h => And.intro h.1 (And.intro (hw.trans (h.2.mono hw.size)) h.2))
          rw [HG.out] at G
          have hne := cell_same c
          have hnil := nilIface_ne
          clear hc hs HG
          by_cases h0 : 0 < j
          · obtain ⟨m, hm⟩ : ∃ m, j = m + 1 := ⟨j - 1, by omega⟩
            have hst := O0.out.step h0 hlt2
            obtain ⟨d, hd⟩ : ∃ d, ds[m]! = d := ⟨_, rfl⟩
            rw [show j - 1 = m by omega, hd, HC.out] at hst
            obtain ⟨a0, a1, a2, a3⟩ := row_keep R.out (show m < ds.length by omega) hd
            have CP := hide (fun wx => compare_low d c wx)
            generalize cmpC d c = q at hst CP
            have hst2 : decide ((0 : Int) ≤ q) = false := hst
            have dg : decide ((0 : Int) < (j : Int)) = true := by simp; omega
            have dn := n0
            have iw : IntKind.i64.wrap ((j : Int) - 1) = (m : Int) := by rw [IntKind.wrap_i64]; omega
            have i1 : (m : Int) < (ds.length : Int) := by omega
            have i2 : (j : Int) < (ds.length : Int) := by omega
            have HD := hide hd
            have HM := hide hm
            clear hd hm
            go_wp2_with fail
            go_region_held3 (fun wx => (wx.cell? ⟨g, m * 4, none⟩ = some (.string d.t) ∧ wx.cell? ⟨g, m * 4 + 1, none⟩ = some (.string d.r) ∧ wx.cell? ⟨g, m * 4 + 2, none⟩ = some (.string d.s) ∧ wx.cell? ⟨g, m * 4 + 3, none⟩ = some (.string d.v)) ∧ wx.cell? ⟨g, j * 4, none⟩ = some (.string c.t) ∧ wx.cell? ⟨g, j * 4 + 1, none⟩ = some (.string c.r) ∧ wx.cell? ⟨g, j * 4 + 2, none⟩ = some (.string c.s) ∧ wx.cell? ⟨g, j * 4 + 3, none⟩ = some (.string c.v)) (first | (with_reducible exact K15.out) | go_keep)
              ((go_at_call 15; (with_reducible refine (CP.out _).mono ?_); rintro x w15 ⟨rfl, hb⟩; have B15 := hide ((Below.refl _ wr).drew.trans hb); have R15 := hide (R.out.still B15.out); have K15 := hide (And.intro (row_keep R15.out (show m < ds.length by omega) HD.out) (row_keep R15.out hlt2 HC.out)); obtain ⟨_, e0, e1, e2, e3⟩ := K15.out; clear hb))
            go_wp2_with fail
            go_region_held3 (fun wx => wx.cell? ⟨g, j * 4, none⟩ = some (.string c.t) ∧ wx.cell? ⟨g, j * 4 + 1, none⟩ = some (.string c.r) ∧ wx.cell? ⟨g, j * 4 + 2, none⟩ = some (.string c.s) ∧ wx.cell? ⟨g, j * 4 + 3, none⟩ = some (.string c.v)) (first | (with_reducible exact K17.out) | go_keep)
              (first
              | (go_at_call 16; refine (G.out _ B15.out.drew).mono ?_; rintro x w17 ⟨rfl, hb, hb2⟩; have R17 := hide (R.out.still hb); have K17 := hide (row_keep R17.out hlt2 HC.out); obtain ⟨x0, x1, x2, x3⟩ := K17.out; have B17 := hide hb; clear hb hb2)
              | (go_at_call 16; refine (G.out _ (B15.out.drew.alloc B15.out.size _)).mono ?_; rintro x w17 ⟨rfl, hb, hb2⟩; have R17 := hide (R.out.still hb); have K17 := hide (row_keep R17.out hlt2 HC.out); obtain ⟨x0, x1, x2, x3⟩ := K17.out; obtain ⟨⟨q0, q1, q2, q3⟩, p0, p1, p2, p3⟩ := box42 hb2 w15.heap.size rfl; obtain ⟨hgg, hg1, hg2⟩ := R15.out.lt_at hlt2; have B17 := hide hb; clear hb hb2))
            all_goals
              go_wp2_with fail
              go_quiet (fail)
              go_wp2
              first
              | exact ⟨⟨j + 1, by omega, by go_num, T.out.still (below_dn (B17.out.alloc B17.out.size _) _), R.out.still (below_dn (B17.out.alloc B17.out.size _) _)⟩, by simp [intOf]; omega⟩
              | exact ⟨⟨j + 1, by omega, by go_num, T.out.still (below_dn ((((B17.out.setCell B15.out.size _).setCell B15.out.size _).setCell B15.out.size _).setCell B15.out.size _) _), R.out.still (below_dn ((((B17.out.setCell B15.out.size _).setCell B15.out.size _).setCell B15.out.size _).setCell B15.out.size _) _)⟩, by simp [intOf]; omega⟩
          · obtain rfl : j = 0 := by omega
            go_wp2_with fail
            go_quiet (fail)
            have Td := hide (T.out.still (below_dn (Below.refl _ wr) nq))
            have Rd := hide (R.out.still (below_dn (Below.refl _ wr) nq))
            go_wp2_with fail
            go_region_held3 (fun wx => wx.cell? ⟨g, 0, none⟩ = some (.string c.t) ∧ wx.cell? ⟨g, 1, none⟩ = some (.string c.r) ∧ wx.cell? ⟨g, 2, none⟩ = some (.string c.s) ∧ wx.cell? ⟨g, 3, none⟩ = some (.string c.v)) (first | (with_reducible exact K17.out) | go_keep)
              (first
              | (go_at_call 16; refine (G.out _ (below_dn (Below.refl _ wr) nq).drew).mono ?_; rintro x w17 ⟨rfl, hb, hb2⟩; have R17 := hide (R.out.still hb); have K17 := hide (row_keep0 R17.out hlt2 HC.out); obtain ⟨e0, e1, e2, e3⟩ := K17.out; have B17 := hide hb; clear hb hb2)
              | (go_at_call 16; refine (G.out _ ((below_dn (Below.refl _ wr) nq).drew.alloc (Nat.le_refl _) _)).mono ?_; rintro x w17 ⟨rfl, hb, hb2⟩; have R17 := hide (R.out.still hb); have K17 := hide (row_keep0 R17.out hlt2 HC.out); obtain ⟨e0, e1, e2, e3⟩ := K17.out; obtain ⟨⟨q0, q1, q2, q3⟩, p0, p1, p2, p3⟩ := box42 hb2 wr.heap.size rfl; obtain ⟨hgg, hg1, hg2⟩ := R.out.lt_at hlt2; have B17 := hide hb; clear hb hb2))
            all_goals
              go_wp2_with fail
              go_quiet (fail)
              go_wp2
              first
              | exact ⟨⟨0 + 1, by omega, by go_num, T.out.still (below_dn (B17.out.alloc B17.out.size _) _), R.out.still (below_dn (B17.out.alloc B17.out.size _) _)⟩, by simp [intOf]; omega⟩
              | exact ⟨⟨0 + 1, by omega, by go_num, T.out.still (below_dn ((((B17.out.setCell (Nat.le_refl _) _).setCell (Nat.le_refl _) _).setCell (Nat.le_refl _) _).setCell (Nat.le_refl _) _) _), R.out.still (below_dn ((((B17.out.setCell (Nat.le_refl _) _).setCell (Nat.le_refl _) _).setCell (Nat.le_refl _) _).setCell (Nat.le_refl _) _) _)⟩, by simp [intOf]; omega⟩
        · have hje : j = ds.length := by omega
          subst hje
          clear hj hlt2
          have S0 := hide (Seek.mk (W := W) (HasR.new wr 3 #[.int .i64 0]) (T.out.box.alloc _) (T.out.below.alloc T.out.below.size _) (R.out.still ((Below.refl _ wr).alloc (Nat.le_refl _) (.cells #[.int .i64 0] 3))))
          have cl : wr.cell? ⟨W.heap.size, 0, none⟩ = some (.slice ao1 es.length cap1) := T.out.box.cell 0
          clear T R hsm
          go_wp2
          go_loopw [9] (fun p wr2 => ∃ (I k : Nat), k ≤ es.length ∧ p = .pointer (some ⟨I, 0, none⟩) ∧ Seek W wr2 I k (.slice ao1 es.length cap1) BASE (.slice pp ds.length cc) ds) (fun p w => es.length - ptrInt p w)
          case atStart => exact ⟨wr.heap.size, 0, Nat.zero_le _, rfl, S0.out⟩
          case round =>
            clear S0 cl
            obtain ⟨I, k, hk, rfl, hS⟩ := hrel
            have S := hide hS
            clear hS
            have ci : wr.cell? ⟨I, 0, none⟩ = some (.int .i64 k) := S.out.i.cell 0
            have cl : wr.cell? ⟨W.heap.size, 0, none⟩ = some (.slice ao1 es.length cap1) := S.out.box.cell 0
            by_cases hlt : k < es.length
            · obtain ⟨b, off, rfl, hcap, hc⟩ := H1.out.spot hlt
              have HC := hide hc
              clear hc
              obtain ⟨e, he⟩ : ∃ e, es[k]! = e := ⟨_, rfl⟩
              rw [he] at HC
              have HE := hide he
              clear he
              obtain ⟨ek, e1, e2, e3, e4⟩ := e
              obtain ⟨_, _, _, c0, c1, c2, c3, c4⟩ := S.out.capt hlt HC.out
              simp only at c0 c1 c2 c3 c4
              rcases byKind ek 1 with hk1 | ⟨hk1, hk2⟩
              · subst hk1
                have RT := hide (rightE_any 1 e1 e2 e3 e4 wr)
                cases hr : rightB ⟨1, e1, e2, e3, e4⟩
                · rw [hr] at RT
                  go_wp2_with (go_at_call 13; (with_reducible refine RT.out.mono ?_); rintro x w5 ⟨rfl, hb⟩; have S5 := hide (S.out.still hb); have di : w5.cell? ⟨I, 0, none⟩ = some (.int .i64 k) := S5.out.i.cell 0; have dl : w5.cell? ⟨W.heap.size, 0, none⟩ = some (.slice (some ⟨b, off, none⟩) es.length cap1) := S5.out.box.cell 0; have B5 := hide hb; clear hb)
                  exact S.out.fin B5.out hlt
                · rw [hr] at RT
                  have EVD := hide (fun wx (s : Seek W wx I k (.slice (some ⟨b, off, none⟩) es.length cap1) BASE (.slice pp ds.length cc) ds) => (H1.out.tail (m := k + 1) hlt hcap).turned s.below (Nat.le_refl _))
                  have hDl : (es.drop (k + 1)).length ≤ 1000 := by rw [List.length_drop]; omega
                  have hPT := hide (fun h => put_there (es := es) (k := k) (cs := ds) hlt (by rw [HE.out]; exact hr) (by rw [HE.out]) (by rw [HE.out]; exact h) O0.out)
                  rw [HE.out] at hPT
                  have hGT := hide (fun h1 h2 => gone_there (es := es) (k := k) (cs := ds) (e := ⟨1, e1, e2, e3, e4⟩) hlt h1 h2 O0.out)
                  have LT := hide (fun wx s => anyLater _ (es.drop (k + 1)) W.heap.size I b off es.length cap1 k ⟨1, e1, e2, e3, e4⟩ wx (EVD.out wx s) hDl (s.capt hlt HC.out))
                  have GT := hide (fun wx s => anyGone _ (es.drop (k + 1)) W.heap.size I b off es.length cap1 k ⟨1, e1, e2, e3, e4⟩ wx (EVD.out wx s) hDl (s.capt hlt HC.out))
                  have PT := hide (fun wx s => anyPut _ (es.drop (k + 1)) W.heap.size I b off es.length cap1 k ⟨1, e1, e2, e3, e4⟩ wx (EVD.out wx s) hDl (s.capt hlt HC.out))
                  have OT := hide (fun wx (s : Seek W wx I k (.slice (some ⟨b, off, none⟩) es.length cap1) BASE (.slice pp ds.length cc) ds) => anyOwn BASE _ ds W.heap.size I b off es.length cap1 k ⟨1, e1, e2, e3, e4⟩ wx s.row (by omega) (s.capt hlt HC.out))
                  have HT := hide (fun h wx (s : Seek W wx I k (.slice (some ⟨b, off, none⟩) es.length cap1) BASE (.slice pp ds.length cc) ds) => has_any BASE _ ds ⟨e2, e3, e1, e4⟩ wx s.row (by omega) (hPT.out h))
                  have KS := hide (fun wx (s : Seek W wx I k (.slice (some ⟨b, off, none⟩) es.length cap1) BASE (.slice pp ds.length cc) ds) => seek_keep s hlt HC.out)
                  by_cases hcc : k + 1 < cap1
                  · have i3 : (k : Int) + 1 ≤ (es.length : Int) := by omega
                    cases hL : (es.drop (k + 1)).any (laterB ⟨1, e1, e2, e3, e4⟩) <;> rw [hL] at LT
                    · have HT2 := hide (HT.out hL)
                      clear hL hPT HT
                      go_wp2_with (first
                        | (go_at_call 13; (with_reducible refine RT.out.mono ?_); rintro x w5 ⟨rfl, hb⟩; have S5 := hide (S.out.still hb); have di : w5.cell? ⟨I, 0, none⟩ = some (.int .i64 k) := S5.out.i.cell 0; have dl : w5.cell? ⟨W.heap.size, 0, none⟩ = some (.slice (some ⟨b, off, none⟩) es.length cap1) := S5.out.box.cell 0; have B5 := hide hb; clear hb)
                        | (go_at_call 17; (with_reducible refine (LT.out _ S5.out).mono ?_); rintro x w6 ⟨rfl, hb⟩; have S6 := hide (S5.out.still hb); have B6 := hide (B5.out.trans (hb.mono B5.out.size)); obtain ⟨m0, m1, m2, m3, m4, m5⟩ := KS.out _ S6.out; clear hb))
                      go_region_held3 (fun wx => wx.cell? ⟨W.heap.size, 0, none⟩ = some (.slice (some ⟨b, off, none⟩) es.length cap1) ∧ wx.cell? ⟨I, 0, none⟩ = some (.int .i64 k) ∧ wx.cell? ⟨b, off + k * 5 + 1, none⟩ = some (.string e1) ∧ wx.cell? ⟨b, off + k * 5 + 2, none⟩ = some (.string e2) ∧ wx.cell? ⟨b, off + k * 5 + 3, none⟩ = some (.string e3) ∧ wx.cell? ⟨b, off + k * 5 + 4, none⟩ = some (.string e4)) (first | (with_reducible exact K7.out) | go_keep)
                        ((go_at_call 19; refine (HT2.out _ (S6.out.still (Below.refl _ _).drew)).mono ?_; rintro x w7 ⟨rfl, hb⟩; have S7 := hide ((S6.out.still (Below.refl _ _).drew).still hb); have K7 := hide (KS.out _ S7.out); have B7 := hide (B6.out.trans ((Below.refl _ _).drew.trans (hb.mono B6.out.size))); have ei : w7.cell? ⟨I, 0, none⟩ = some (.int .i64 k) := S7.out.i.cell 0; clear hb))
                      go_wp2
                      exact S.out.fin B7.out hlt
                    · clear hPT HT hL
                      go_wp2_with (first
                        | (go_at_call 13; (with_reducible refine RT.out.mono ?_); rintro x w5 ⟨rfl, hb⟩; have S5 := hide (S.out.still hb); have di : w5.cell? ⟨I, 0, none⟩ = some (.int .i64 k) := S5.out.i.cell 0; have dl : w5.cell? ⟨W.heap.size, 0, none⟩ = some (.slice (some ⟨b, off, none⟩) es.length cap1) := S5.out.box.cell 0; have B5 := hide hb; clear hb)
                        | (go_at_call 17; (with_reducible refine (LT.out _ S5.out).mono ?_); rintro x w6 ⟨rfl, hb⟩; have S6 := hide (S5.out.still hb); have B6 := hide (B5.out.trans (hb.mono B5.out.size)); obtain ⟨m0, m1, m2, m3, m4, m5⟩ := KS.out _ S6.out; clear hb))
                      go_quiet (fail)
                      have S7 := hide (S6.out.still (below_dn (Below.refl _ w6) nq))
                      have B7 := hide (below_dn B6.out nq)
                      cases hG : (es.drop (k + 1)).any (goneOfB ⟨1, e1, e2, e3, e4⟩) <;> rw [hG] at GT
                      · clear hG hGT
                        go_wp2_with (go_at_call 17; (with_reducible refine (GT.out _ S7.out).mono ?_); rintro x w8 ⟨rfl, hb⟩; have S8 := hide (S7.out.still hb); have B8 := hide (B7.out.trans (hb.mono B7.out.size)); obtain ⟨M0w8, M1w8, _⟩ := KS.out _ S8.out; clear hb)
                        exact S.out.fin B8.out hlt
                      · cases hP : (es.drop (k + 1)).any (putOfB ⟨1, e1, e2, e3, e4⟩) <;> rw [hP] at PT
                        · have hN := hGT.out hG hP
                          rw [hN] at OT
                          clear hG hGT hP hN
                          go_wp2_with (first
                            | (go_at_call 17; (with_reducible refine (GT.out _ S7.out).mono ?_); rintro x w8 ⟨rfl, hb⟩; have S8 := hide (S7.out.still hb); have B8 := hide (B7.out.trans (hb.mono B7.out.size)); obtain ⟨M0w8, M1w8, _⟩ := KS.out _ S8.out; clear hb)
                            | (go_at_call 17; (with_reducible refine (PT.out _ S8.out).mono ?_); rintro x w9 ⟨rfl, hb⟩; have S9 := hide (S8.out.still hb); have B9 := hide (B8.out.trans (hb.mono B8.out.size)); obtain ⟨M0w9, M1w9, _⟩ := KS.out _ S9.out; clear hb)
                            | (go_at_call 22; (with_reducible refine (OT.out _ S9.out).mono ?_); rintro x w10 ⟨rfl, hb⟩; have S10 := hide (S9.out.still hb); have B10 := hide (B9.out.trans (hb.mono B9.out.size)); obtain ⟨M0w10, M1w10, _⟩ := KS.out _ S10.out; clear hb))
                          exact S.out.fin B10.out hlt
                        · clear hG hGT hP
                          go_wp2_with (first
                            | (go_at_call 17; (with_reducible refine (GT.out _ S7.out).mono ?_); rintro x w8 ⟨rfl, hb⟩; have S8 := hide (S7.out.still hb); have B8 := hide (B7.out.trans (hb.mono B7.out.size)); obtain ⟨M0w8, M1w8, _⟩ := KS.out _ S8.out; clear hb)
                            | (go_at_call 17; (with_reducible refine (PT.out _ S8.out).mono ?_); rintro x w9 ⟨rfl, hb⟩; have S9 := hide (S8.out.still hb); have B9 := hide (B8.out.trans (hb.mono B8.out.size)); obtain ⟨M0w9, M1w9, _⟩ := KS.out _ S9.out; clear hb))
                          exact S.out.fin B9.out hlt
                  · obtain rfl : cap1 = k + 1 := by omega
                    have i3 : (k : Int) + 1 ≤ (es.length : Int) := by omega
                    have hL : (es.drop (k + 1)).any (laterB ⟨1, e1, e2, e3, e4⟩) = false := by rw [List.drop_eq_nil_of_le (by omega)]; rfl
                    have HT2 := hide (HT.out hL)
                    have NT := hide (fun p c fv wx => containsNone p c fv wx)
                    clear LT GT PT OT HT hGT hPT EVD hL hDl hcc
                    go_wp2_with (first
                      | (go_at_call 13; (with_reducible refine RT.out.mono ?_); rintro x w5 ⟨rfl, hb⟩; have S5 := hide (S.out.still hb); have di : w5.cell? ⟨I, 0, none⟩ = some (.int .i64 k) := S5.out.i.cell 0; have dl : w5.cell? ⟨W.heap.size, 0, none⟩ = some (.slice (some ⟨b, off, none⟩) es.length (k + 1)) := S5.out.box.cell 0; have B5 := hide hb; clear hb)
                      | (go_at_call 17; (with_reducible refine (NT.out _ _ _ _).mono ?_); rintro x w6 ⟨rfl, rfl⟩; obtain ⟨m0, m1, m2, m3, m4, m5⟩ := KS.out _ S5.out))
                    go_region_held3 (fun wx => wx.cell? ⟨W.heap.size, 0, none⟩ = some (.slice (some ⟨b, off, none⟩) es.length (k + 1)) ∧ wx.cell? ⟨I, 0, none⟩ = some (.int .i64 k) ∧ wx.cell? ⟨b, off + k * 5 + 1, none⟩ = some (.string e1) ∧ wx.cell? ⟨b, off + k * 5 + 2, none⟩ = some (.string e2) ∧ wx.cell? ⟨b, off + k * 5 + 3, none⟩ = some (.string e3) ∧ wx.cell? ⟨b, off + k * 5 + 4, none⟩ = some (.string e4)) (first | (with_reducible exact K7.out) | go_keep)
                      ((go_at_call 19; refine (HT2.out _ (S5.out.still (Below.refl _ _).drew)).mono ?_; rintro x w7 ⟨rfl, hb⟩; have S7 := hide ((S5.out.still (Below.refl _ _).drew).still hb); have K7 := hide (KS.out _ S7.out); have B7 := hide (B5.out.trans ((Below.refl _ _).drew.trans (hb.mono B5.out.size))); have ei : w7.cell? ⟨I, 0, none⟩ = some (.int .i64 k) := S7.out.i.cell 0; clear hb))
                    go_wp2
                    exact S.out.fin B7.out hlt
              · have hk3 : (ek != 1) = true := by simp [bne, hk1]
                go_wp2
                exact S.out.fin (Below.refl _ _) hlt
            · have hke : k = es.length := by omega
              subst hke
              go_wp2
              go_ret
              exact ⟨rfl, S.out.below⟩
end Go.Proofs.Ytpfihhilgeihoaa
