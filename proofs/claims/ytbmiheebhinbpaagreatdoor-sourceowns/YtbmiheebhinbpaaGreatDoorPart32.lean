/- For every list of events: what is refused at a source changes nothing, and a row is never another one's unless its owner left it or was forgotten: SourceOwns returns true, and the list reads behind the call as it did before. The library's type of errors, the tables of the sum and of the kinds, and the library's two tables of runes start as their texts lay them (the card ties that). -/
import Derived.BigQuiet
import Derived.Test.YtbmiheebhinbpaaGreatDoorPart31
/- Each row has one owner: the law's own walk. -/
namespace Go.Proofs.YtbmiheebhinbpaaGreatDoor
open Go.RowKit Go.Sort
attribute [local go_sem ↓] Go.wp_at_zero Go.wp_at_succ
set_option linter.unusedSectionVars false
variable [Inhabited Cl] [Inhabited Ev]
/-- A source, whatever happened to it so far. -/
def Kps (B n : Nat) (w : World) : Prop := ∃ mt mv v σ τ rs, Src B w (B + 2) (B + 1) B mt mv v n n secB σ τ rs ∧ rs.length = n
theorem Kps.still {B n : Nat} {w w' : World} (h : Kps B n w) (b : Below w.heap.size w w') : Kps B n w' := by
  obtain ⟨mt, mv, v, σ, τ, rs, hS, hl⟩ := h
  exact ⟨mt, mv, v, σ, τ, rs, hS.still b, hl⟩
/-- What the inner loop has. -/
structure Inn (w0 w : World) (B n I k bw : Nat) (u : Value) (ds : List Cl) (u2 : Value) (ds2 : List Cl) : Prop where
  i : HasR w I 3 #[.int .i64 k]
  box : HasR w bw 57 #[u]
  rowU : RowC w 0 u ds
  rowN : RowC w 0 u2 ds2
  keep : Kps B n w
  bel : Below w0.heap.size w0 w
theorem Inn.still {w0 w w' : World} {B n I k bw : Nat} {u u2 : Value} {ds ds2 : List Cl} (h : Inn w0 w B n I k bw u ds u2 ds2) (b : Below w.heap.size w w') : Inn w0 w' B n I k bw u ds u2 ds2 :=
  ⟨h.i.below b h.i.lt, h.box.below b h.box.lt, h.rowU.below b (Nat.le_refl _), h.rowN.below b (Nat.le_refl _), h.keep.still b, h.bel.trans (b.mono h.bel.size)⟩
theorem Inn.fin {w0 w w' : World} {B n I k bw : Nat} {u u2 : Value} {ds ds2 : List Cl} (h : Inn w0 w B n I k bw u ds u2 ds2) (b : Below w.heap.size w w') (hk : k < ds.length) :
    (∃ I' k' : Nat, k' ≤ ds.length ∧ Value.pointer (some ⟨w'.heap.size, 0, none⟩) = Value.pointer (some ⟨I', 0, none⟩) ∧ Inn w0 (w'.alloc (.cells #[.int .i64 ((k : Int) + 1)] 3)) B n I' k' bw u ds u2 ds2) ∧
      ds.length - ptrInt (.pointer (some ⟨w'.heap.size, 0, none⟩)) (w'.alloc (.cells #[.int .i64 ((k : Int) + 1)] 3)) < ds.length - ptrInt (.pointer (some ⟨I, 0, none⟩)) w := by
  have s := h.still (b.alloc b.size (.cells #[.int .i64 ((k : Int) + 1)] 3))
  have hs : Inn w0 (w'.alloc (.cells #[.int .i64 ((k : Int) + 1)] 3)) B n w'.heap.size (k + 1) bw u ds u2 ds2 := ⟨HasR.new w' 3 _, s.box, s.rowU, s.rowN, s.keep, s.bel⟩
  refine ⟨⟨w'.heap.size, k + 1, hk, rfl, hs⟩, ?_⟩
  rw [ptrInt_of hs.i, ptrInt_of h.i]
  omega
theorem RowC.zero {w : World} {b : Nat} {v : Value} {l : List Cl} (h : RowC w b v l) : RowC w 0 v l := h.mono (Nat.zero_le _)
theorem ne_at (a b : ByteArray) (h : a = b) : (a.toList == b.toList) = true := by rw [h]; simp
set_option maxRecDepth 100000 in
set_option maxHeartbeats 8000000 in
theorem owns_any (v : Value) (es : List Ev) (w : World) (T : Tabs w) (hv : EvRow w v es) :
    Calls Tryz.prog 7 #[v] w fun x w' => x = .returned (.bool true) ∧ Below w.heap.size w w' := by
  have F := hide (few_any v es w hv)
  have TK := T.k.lt
  have TT := hide T
  have HV := hide hv
  obtain ⟨ao, cap, rfl⟩ := hv.slice
  clear hv T
  cases hf : fewB es
  · rw [hf] at F
    go_enter Tryz.func7, Tryz.ntmps7
    go_wp2_with (go_at_call 12; (with_reducible refine F.out.mono ?_); rintro x w1 ⟨rfl, hb1⟩)
    go_ret
    exact ⟨rfl, hb1⟩
  · rw [hf] at F
    obtain ⟨h30, hbr⟩ := few_brief hf
    have BR := hide hbr
    clear hf hbr
    have hne := nilNe
    have hps := ptrS_nil
    go_enter Tryz.func7, Tryz.ntmps7
    go_wp2_with (first
      | (go_at_call 12; (with_reducible refine F.out.mono ?_); rintro x w1 ⟨rfl, hb1⟩
         have B1 := hide hb1
         have F2 := hide (fed_any w1 (TT.out.below hb1 TK))
         clear hb1)
      | (go_at_call 13; (with_reducible refine F2.out.mono ?_); rintro x w2 ⟨rfl, hb2⟩
         have B2 := hide (B1.out.trans (hb2.mono B1.out.size))
         have F3 := hide (applied_any w2)
         clear hb2)
      | (go_at_call 25; (with_reducible refine F3.out.mono ?_); rintro x w3 ⟨rfl, hb3⟩
         have B3 := hide (B2.out.trans (hb3.mono B2.out.size))
         have N := hide (srcNew_ok secB w3 rfl)
         clear hb3)
      | (go_at_call 26; (refine N.out.mono ?_); rintro x w4 ⟨rfl, hS4, hb4⟩
         have B4 := hide (B3.out.trans (hb4.mono B3.out.size))
         have S4 := hide hS4
         clear hS4 hb4))
    have hBB := B3.out.size
    go_loopw [5] (fun i wr => ∃ k n : Nat, i = .int .i64 k ∧ k ≤ es.length ∧ n ≤ k ∧ Kps w3.heap.size n wr ∧ Below w.heap.size w wr) (fun i _ => es.length - (intOf i).toNat)
    case atStart => exact ⟨0, 0, rfl, Nat.zero_le _, Nat.le_refl _, ⟨_, _, _, _, _, _, S4.out, rfl⟩, B4.out⟩
    case round =>
      clear S4 B4 N F F2 F3 hps
      obtain ⟨k, n, rfl, hk, hn, ⟨mt, mv, vv, σ, τ, rs, hS, hlen⟩, hbr⟩ := hrel
      have S := hide hS
      have BB := hide hbr
      clear hS hbr
      by_cases hlt : k < es.length
      · obtain ⟨b, off, rfl, hcap, hc⟩ := HV.out.spot hlt
        have hbrf : Brief es[k]! := BR.out _ (by rw [getElem!_pos es k hlt]; exact List.getElem_mem hlt)
        have HC := hide hc
        have HBR := hide hbrf
        clear hc hbrf
        generalize es[k]! = e at HC HBR
        have C1 := hide (srcCells_any _ wr _ _ _ _ _ _ _ _ _ _ _ _ S.out (by omega))
        cases hd : doesB σ τ e
        · have hen := errNe
          go_wp2_with (first
            | (go_at_call 29; (with_reducible refine C1.out.mono ?_); rintro x w5 ⟨u, ds, rfl, ho, hl, hr, hb⟩
               obtain ⟨pu, cu, rfl⟩ := hr.slice
               have R5 := hide hr.zero
               have O5 := hide ho
               have B5 := hide hb
               have F5 := hide (srcFeed_any _ w5 _ _ _ _ _ _ _ _ _ _ _ _ (S.out.still hb) (by omega))
               clear ho hr hb C1)
            | (go_at_call 15; (with_reducible refine F5.out.mono ?_); rintro x w6 ⟨f, rfl, hr, hb⟩
               obtain ⟨pf, cf, rfl⟩ := ownsRow_slice hr
               have hb6 := B5.out.trans (hb.mono B5.out.size)
               have B6 := hide (hb6.alloc hb6.size (.cells #[.slice pu ds.length cu] 57))
               have R6 := hide ((R5.out.below hb (Nat.le_refl _)).below ((Below.refl _ w6).alloc (Nat.le_refl _) (.cells #[.slice pu ds.length cu] 57)) (Nat.le_refl _))
               have X6 := hide (HasR.new w6 57 #[.slice pu ds.length cu])
               have hW6 := BB.out.trans (B6.out.mono BB.out.size)
               obtain ⟨c0, c1, c2, c3, c4, hlb⟩ := evs_at (BB.out.trans (hb6.mono BB.out.size)) (Nat.le_refl _) HC.out
               have D6 := hide (do_no _ _ _ _ _ _ _ _ _ _ _ _ _ _ e (S.out.still B6.out) HBR.out (by decide) (by omega) (by omega) (by omega) (TT.out.below hW6 TK) (by omega) hd)
               clear hr hb hb6 hW6 F5)
            | (go_at_call 27; (with_reducible refine D6.out.mono ?_); rintro x w7 ⟨⟨z, rfl⟩, hS7, hb7⟩
               have Z := (Below.refl _ w7).alloc (Nat.le_refl _) (.cells #[.int .i64 0, .string ⟨#[]⟩, .int .i64 0, .string ⟨#[]⟩, .string ⟨#[]⟩] 44)
               have S7 := hide (hS7.still Z)
               have B7 := hide ((B6.out.trans (hb7.mono B6.out.size)).trans (Z.mono (B6.out.trans (hb7.mono B6.out.size)).size))
               have R7 := hide ((R6.out.below hb7 (Nat.le_refl _)).below Z (Nat.le_refl _))
               have X7 := hide ((X6.out.below hb7 X6.out.lt).alloc (.cells #[.int .i64 0, .string ⟨#[]⟩, .int .i64 0, .string ⟨#[]⟩, .string ⟨#[]⟩] 44))
               have C7 := hide (srcCells_any _ _ _ _ _ _ _ _ _ _ _ _ _ _ S7.out (by omega))
               clear hS7 hb7 Z D6)
            | (go_at_call 29; (with_reducible refine C7.out.mono ?_); rintro x w8 ⟨u2, ds2, rfl, ho, hl2, hr, hb⟩
               obtain rfl := ho.eq O5.out
               obtain ⟨pn, cn, rfl⟩ := hr.slice
               have B8 := hide (B7.out.trans (hb.mono B7.out.size))
               have S8 := hide (S7.out.still hb)
               have X8 := hide (X7.out.below hb X7.out.lt)
               have x8 : w8.cell? ⟨w6.heap.size, 0, none⟩ = some (.slice pu ds2.length cu) := X8.out.cell 0
               have E8 := hide (equal_any 0 _ _ _ ds2 w8 (R7.out.below hb (Nat.le_refl _)) hr (by omega))
               clear ho hr hb C7)
            | (go_at_call 28; (with_reducible refine E8.out.mono ?_); rintro x w9 ⟨rfl, hb⟩
               have B9 := hide (B8.out.trans (hb.mono B8.out.size))
               have S9 := hide (S8.out.still hb)
               have F9 := hide (srcFeed_any _ w9 _ _ _ _ _ _ _ _ _ _ _ _ S9.out (by omega))
               clear hb E8)
            | (go_at_call 15; (with_reducible refine F9.out.mono ?_); rintro x w10 ⟨f2, rfl, hr, hb⟩
               obtain ⟨pg, cg, rfl⟩ := ownsRow_slice hr
               have B10 := hide (B9.out.trans (hb.mono B9.out.size))
               have S10 := hide (S9.out.still hb)
               clear hr hb F9))
          exact ⟨⟨k + 1, n, by go_num, by omega, by omega, ⟨_, _, _, _, _, _, S10.out, hlen⟩, BB.out.trans (B10.out.mono BB.out.size)⟩, by simp [intOf]; omega⟩
        · obtain ⟨hrt, href⟩ := does_parts hd
          go_wp2_with (first
            | (go_at_call 29; (with_reducible refine C1.out.mono ?_); rintro x w5 ⟨u, ds, rfl, ho, hl, hr, hb⟩
               obtain ⟨pu, cu, rfl⟩ := hr.slice
               have R5 := hide hr
               have O5 := hide ho
               have B5 := hide hb
               have F5 := hide (srcFeed_any _ w5 _ _ _ _ _ _ _ _ _ _ _ _ (S.out.still hb) (by omega))
               clear ho hr hb C1)
            | (go_at_call 15; (with_reducible refine F5.out.mono ?_); rintro x w6 ⟨f, rfl, hr, hb⟩
               obtain ⟨pf, cf, rfl⟩ := ownsRow_slice hr
               have hb6 := B5.out.trans (hb.mono B5.out.size)
               have B6 := hide (hb6.alloc hb6.size (.cells #[.slice pu ds.length cu] 57))
               have R6 := hide ((R5.out.below hb (Nat.le_refl _)).below ((Below.refl _ w6).alloc (Nat.le_refl _) (.cells #[.slice pu ds.length cu] 57)) (Nat.le_refl _))
               have X6 := hide (HasR.new w6 57 #[.slice pu ds.length cu])
               have hW6 := BB.out.trans (B6.out.mono BB.out.size)
               have hr6 := hb6.size
               obtain ⟨c0, c1, c2, c3, c4, hlb⟩ := evs_at (BB.out.trans (hb6.mono BB.out.size)) (Nat.le_refl _) HC.out
               have D6 := hide (do_yes _ _ _ _ _ _ _ _ _ _ _ _ _ _ e (S.out.still B6.out) HBR.out (by decide) (by omega) (by omega) (by omega) (TT.out.below hW6 TK) (by omega) hd)
               clear hr hb hb6 hW6 F5)
            | (go_at_call 27; (with_reducible refine D6.out.mono ?_); rintro x w7 ⟨Q, hQ, rfl, ⟨mt7, m7, v7, hS7, _⟩, hs7, hb7⟩
               have Z := (Below.refl _ w7).alloc (Nat.le_refl _) (.cells #[.int .i64 (Q.q : Int), .string Q.s, .int .i64 (Q.g : Int), .string Q.p, .string Q.d] 44)
               have S7 := hide (hS7.still Z)
               have B7 := hide ((BB.out.trans (B6.out.mono BB.out.size)).trans ((hb7.mono hBB).trans (Z.mono (Nat.le_trans (BB.out.trans (B6.out.mono BB.out.size)).size hs7.size))))
               have R7 := hide ((R6.out.turned hs7 S.out.oldO).below Z (Nat.le_refl _)).zero
               have X7 := hide ((X6.out.turned hs7 (fun hm => by have := S.out.oldO _ hm; omega)).alloc (.cells #[.int .i64 (Q.q : Int), .string Q.s, .int .i64 (Q.g : Int), .string Q.p, .string Q.d] 44))
               have C7 := hide (srcCells_any _ _ _ _ _ _ _ _ _ _ _ _ _ _ S7.out (by omega))
               clear hQ hS7 hb7 hs7 Z D6)
            | (go_at_call 29; (with_reducible refine C7.out.mono ?_); rintro x w8 ⟨u2, ds2, rfl, ho, hl2, hr, hb⟩
               obtain ⟨pn, cn, rfl⟩ := hr.slice
               have O8 := hide ho
               have B8 := hide (B7.out.trans (hb.mono B7.out.size))
               have S8 := hide (S7.out.still hb)
               have X8 := hide (X7.out.below hb X7.out.lt)
               have RU8 := hide (R7.out.below hb (Nat.le_refl _))
               have RN8 := hide hr.zero
               have F8 := hide (srcFeed_any _ w8 _ _ _ _ _ _ _ _ _ _ _ _ S8.out (by simp; omega))
               clear ho hr hb C7)
            | (go_at_call 15; (with_reducible refine F8.out.mono ?_); rintro x w9 ⟨f2, rfl, hr, hb⟩
               obtain ⟨pg, cg, rfl⟩ := ownsRow_slice hr
               have hz : (((rs ++ [Q]).length : Nat) : Int) = (n : Int) + 1 := by simp; omega
               have hz2 : ((rs.length : Nat) : Int) = (n : Int) := by omega
               have A9 := (Below.refl _ w9).alloc (Nat.le_refl _) (.cells #[.int .i64 0] 3)
               have hb2 := hb.trans (A9.mono hb.size)
               have I9 := hide (Inn.mk (w0 := w) (HasR.new w9 3 #[.int .i64 0]) (X8.out.below hb2 X8.out.lt) (RU8.out.below hb2 (Nat.le_refl _)) (RN8.out.below hb2 (Nat.le_refl _)) (Kps.still ⟨_, _, _, _, _, _, S8.out, by simp; omega⟩ hb2) (B8.out.trans (hb2.mono B8.out.size)))
               clear hr hb hb2 A9 F8))
          go_loopw [11] (fun p wr2 => ∃ (I k2 : Nat), k2 ≤ ds.length ∧ p = .pointer (some ⟨I, 0, none⟩) ∧ Inn w wr2 w3.heap.size (n + 1) I k2 w6.heap.size (.slice pu ds.length cu) ds (.slice pn ds2.length cn) ds2) (fun p w => ds.length - ptrInt p w)
          case atStart => exact ⟨w9.heap.size, 0, Nat.zero_le _, rfl, I9.out⟩
          case round =>
            clear I9 c0 c1 c2 c3 c4 hlb
            obtain ⟨I, k2, hk2, rfl, hI⟩ := hrel
            have II := hide hI
            clear hI
            have ci : wr.cell? ⟨I, 0, none⟩ = some (.int .i64 k2) := II.out.i.cell 0
            have cb : wr.cell? ⟨w6.heap.size, 0, none⟩ = some (.slice pu ds.length cu) := II.out.box.cell 0
            by_cases hlt2 : k2 < ds.length
            · have IX := hide (index_any 0 0 w6.heap.size I k2 _ _ ds ds2 wr II.out.rowU II.out.rowN hlt2 (by omega) cb ci)
              obtain ⟨gu, rfl, hgu, hcu, u0, u1, u2, u3⟩ := II.out.rowU.at hlt2
              rcases owns_row hrt href O5.out O8.out hlt2 with ⟨hp, hs⟩ | ⟨j, hj, hp, hs⟩
              · rw [hp] at IX
                have g1 : decide ((0 : Int) ≤ -1) = false := by decide
                have g2 : decide ((-1 : Int) < 0) = true := by decide
                have i1 : (k : Int) < (es.length : Int) := by omega
                have i2 : (k2 : Int) < (ds.length : Int) := by omega
                generalize ds[k2]!.s = sx at hs u2
                have HSX := hide hs
                clear hs hp
                have hsx : (sx.toList == sx.toList) = true := by simp
                go_wp2_with (
                  go_at_call 40; (with_reducible refine IX.out.mono ?_); rintro x w11 ⟨rfl, hb⟩
                  have B11 := hide hb
                  have I11 := hide (II.out.still hb)
                  obtain ⟨c0, c1, c2, c3, c4, hlb⟩ := evs_at I11.out.bel (Nat.le_refl _) HC.out
                  rw [HSX.out] at c1
                  have ci1 : w11.cell? ⟨I, 0, none⟩ = some (.int .i64 k2) := I11.out.i.cell 0
                  have cb1 : w11.cell? ⟨w6.heap.size, 0, none⟩ = some (.slice (some ⟨gu, 0, none⟩) ds.length cu) := I11.out.box.cell 0
                  have d2 : w11.cell? ⟨gu, k2 * 4 + 2, none⟩ = some (.string sx) := (hb.cell (p := ⟨gu, k2 * 4 + 2, none⟩) hgu).trans u2
                  clear hb)
                go_quiet (fail)
                have B12 := hide (below_dn B11.out nq)
                have I12 := hide (II.out.still (below_dn B11.out nq))
                generalize w11.drewN nq = w12 at B12 I12 ⊢
                have ci2 : w12.cell? ⟨I, 0, none⟩ = some (.int .i64 k2) := I12.out.i.cell 0
                go_wp2
                obtain ⟨f1, f2⟩ := II.out.fin B12.out hlt2
                first
                  | exact ⟨f1, f2⟩
                  | exact ⟨by ((repeat apply Exists.intro); exact ⟨f1, rfl⟩), f2⟩
              · rw [hp] at IX
                obtain ⟨gn, rfl, hgn, hcn, n0, n1, n2, n3⟩ := II.out.rowN.at hj
                rw [hs] at n2
                have g1 : decide ((0 : Int) ≤ (j : Int)) = true := by simp
                have g2 : decide ((j : Int) < 0) = false := by simp
                have g3 : (0 : Int) ≤ (j : Int) := by omega
                have i1 : (j : Int) < (ds2.length : Int) := by omega
                have i2 : (k2 : Int) < (ds.length : Int) := by omega
                generalize ds[k2]!.s = sx at hs u2 n2
                clear hs hp
                have hsx : (sx.toList == sx.toList) = true := by simp
                go_wp2_with (
                  go_at_call 40; (with_reducible refine IX.out.mono ?_); rintro x w11 ⟨rfl, hb⟩
                  have B11 := hide hb
                  have I11 := hide (II.out.still hb)
                  have ci1 : w11.cell? ⟨I, 0, none⟩ = some (.int .i64 k2) := I11.out.i.cell 0
                  have cb1 : w11.cell? ⟨w6.heap.size, 0, none⟩ = some (.slice (some ⟨gu, 0, none⟩) ds.length cu) := I11.out.box.cell 0
                  have d2 : w11.cell? ⟨gu, k2 * 4 + 2, none⟩ = some (.string sx) := (hb.cell (p := ⟨gu, k2 * 4 + 2, none⟩) hgu).trans u2
                  have f2 : w11.cell? ⟨gn, j * 4 + 2, none⟩ = some (.string sx) := (hb.cell (p := ⟨gn, j * 4 + 2, none⟩) hgn).trans n2
                  clear hb)
                go_quiet (fail)
                have B12 := hide (below_dn B11.out nq)
                have I12 := hide (II.out.still (below_dn B11.out nq))
                generalize w11.drewN nq = w12 at B12 I12 ⊢
                have ci2 : w12.cell? ⟨I, 0, none⟩ = some (.int .i64 k2) := I12.out.i.cell 0
                go_wp2
                obtain ⟨f1, f2⟩ := II.out.fin B12.out hlt2
                first
                  | exact ⟨f1, f2⟩
                  | exact ⟨by ((repeat apply Exists.intro); exact ⟨f1, rfl⟩), f2⟩
            · go_wp2
              exact ⟨⟨k + 1, n + 1, by go_num, by omega, by omega, II.out.keep, II.out.bel⟩, by simp [intOf]; omega⟩
      · go_wp2
        go_ret
        exact ⟨rfl, BB.out⟩
end Go.Proofs.YtbmiheebhinbpaaGreatDoor

namespace Go.Proofs.YtbmiheebhinbpaaGreatDoor
open Go.ChangeShapes Go.WideShapes Go.ChangeAt Go.RowKit
open Go.ChangeMaps (open_string shut_string)
set_option maxRecDepth 100000 in
theorem sourceOwns_lifted (os : Os) (started : os.Started) (H : Type) (enc : TypeId × Value → H) :
    ReturnsInHanded {} Tryz.checked os 7 .any (fun w args => (Rows.sourceOwnsSpec.pre enc Tryz.prog Tryz.f7 [] false w args ∧ laidMetH Tryz.prog Rows.sourceOwnsRow.laid w) ∧ sizedMet enc Tryz.prog Tryz.f7 (OpenSpec.ofChange Rows.sourceOwnsSpec) false w args)
      (Rows.sourceOwnsSpec.post enc Tryz.prog Tryz.f7 false true false false) := by
  refine returns_listed started (by kernel_rfl) Tryz.func7
    (ChangeSpec.witness_shaped (enc := enc) (C := Tryz.checked) (os := os) (X := fun w _ => laidMetH Tryz.prog Rows.sourceOwnsRow.laid w) false (((World.holding Tryz.prog os ⟨#[], #[], []⟩).setCell ⟨1, 0, none⟩ (.iface 187 (.agg #[.pointer (some ⟨6, 38, none⟩)]))).layVars Tryz.prog dataL) #[.slice none 0 0] 8 (World.layVars_os _ _ _)
      (World.shaped_of_ZipB (by kernel_rfl) (by kernel_rfl)) (by kernel_rfl) (by kernel_rfl) (by kernel_rfl)
      (laidMetH_of_parts (show laidMet Tryz.prog dataL _ from laidMet_on (w0 := (World.holding Tryz.prog os ⟨#[], #[], []⟩).setCell ⟨1, 0, none⟩ (.iface 187 (.agg #[.pointer (some ⟨6, 38, none⟩)]))) (by simp [World.memory, World.forCall, Input.heap]) (by kernel_rfl) (by kernel_rfl)) (by kernel_rfl))) ?_
  intro W base args ds gs before hval0 hW hsh hL
  have hval : ∀ (j : Nat) t v, Tryz.f7.params[j]? = some t → args[j]? = some v → Value.okWide Tryz.prog W .any base t v := hval0
  have hW' := hW
  obtain ⟨p, q, hA0, hV, rfl, hfz, hnd⟩ := hW
  have hA : DataW.TrodAll enc Tryz.prog W 0 (fun _ => true) true Tryz.f7.params.toList args.toList ds p := hA0
  rw [Tryz.params7] at hA hval
  obtain ⟨v0, vs0, d0, ds0, p0, q0, hargs, rfl, rfl, h0, r0⟩ := trodAll_cons hA
  obtain ⟨rfl, rfl, rfl⟩ := trodAll_nil r0
  obtain rfl : args = #[v0] := by cases args; simp_all
  obtain ⟨rfl, rfl⟩ := trodVars_none hV
  letI : Inhabited Cl := ⟨cl0⟩
  letI : Inhabited Ev := ⟨ev0⟩
  obtain ⟨a0, len0, cap0, rfl⟩ := okWide_slice Tryz.underlying22 (hval 0 22 v0 rfl rfl)
  have k0 := h0
  have lt0 : ∀ x ∈ p0, x.block < W.heap.size := by obtain ⟨m, hm⟩ := k0; exact DataW.trod_lt m _ _ _ hm
  obtain ⟨es0, e0⟩ := evs_of h0
  clear hA0 hval0
  simp only [List.append_nil] at hW'
  refine (owns_any _ es0 W (tabs_of hsh hL) e0).mono fun x W' ⟨he, bel⟩ => ?_
  subst he
  exact ⟨_, rfl, _, _, _, [], _, [], hW', trodAll_mk1 (shut_bool Tryz.underlying4 _), (trodAll_cons_mk (Below.trod laidOut (by kernel_rfl) (of_decide_eq_true (by kernel_rfl)) k0 bel lt0) (trodAll_mk0)), rfl, bel.frame _, fun h => by cases h⟩
theorem sourceOwns_row_holds : Rows.SourceOwnsSaid :=
  OpenClaim.holds_of_wide 7 Tryz.f7 rfl rfl rfl rfl rfl rfl rfl ⟨rfl, rfl, rfl, rfl, rfl⟩ rfl rfl rfl rfl rfl (by kernel_rfl) Tryz.func7 (by kernel_rfl)
    (of_decide_eq_true (by kernel_rfl)) (by unfold Func.isWrapper; first | (rw [if_pos (by decide +kernel)]; kernel_rfl) | (rw [if_neg (by decide +kernel)]; exact ⟨rfl, rfl⟩))
    (fun os started H enc _ => sourceOwns_lifted os started H enc)
theorem sourceOwns_holds : Rows.SourceOwnsCardSaid :=
  Claim7.holds_tied_plain_at .later [] [.data, .handle, .data, .data, .pinned] true (true, "8a85a5eee98c237e46004362c2271095f71e0d7e58ceece59f9257a0176131be") true
    sourceOwns_row_holds (fun _ h => by cases h) (by kernel_rfl) (fun _ h => by cases h) sourceOwns_row_tie rfl ⟨rfl, rfl⟩ (by kernel_rfl) rfl
    (fun f fn hf hfn => by
      obtain rfl : f = 7 := Option.some.inj ((show Tryz.prog.funcNamed Rows.sourceOwnsRow.func = some 7 by kernel_rfl).symm.trans hf) |>.symm
      obtain rfl : fn = Tryz.f7 := (Option.some.inj (Tryz.func7.symm.trans hfn)).symm
      exact ⟨by kernel_rfl, fun j t ht => by
        rw [Tryz.params7] at ht
        have hm : t ∈ [22] := by simpa using Array.mem_of_getElem? ht
        have hall : ([22].all fun u => !Tryz.prog.wantsStandIn u) = true := by kernel_rfl
        exact (show Tryz.prog.wantsStandIn t = false by simpa using List.all_eq_true.1 hall t hm)⟩)
    (by kernel_rfl)
end Go.Proofs.YtbmiheebhinbpaaGreatDoor
