/- TWICE IS ONCE: the law's walk. -/
import Derived.Test.YtpfihhilgeihoaaThree
namespace Go.Proofs.Ytpfihhilgeihoaa
open Go.RowKit Go.Sort
attribute [local go_sem ↓] Go.wp_at_zero Go.wp_at_succ
set_option linter.unusedSectionVars false
variable [Inhabited Cl] [Inhabited Ev]
set_option maxRecDepth 100000 in
set_option maxHeartbeats 4000000 in
theorem twice_main (v1 : Value) (es : List Ev) (e : Ev) (W : World) (h1 : EvRow W v1 es) (f1 : fewB es = true) (f2 : fewB [e] = true) :
    Calls Try.prog 5 #[v1, .agg #[.int .i64 e.k, .string e.s, .string e.t, .string e.r, .string e.v]] W fun x w' => x = .returned (.bool true) ∧ Below W.heap.size W w' := by
  have bel0 : Below W.heap.size W (W.alloc (.cells #[.int .i64 e.k, .string e.s, .string e.t, .string e.r, .string e.v] 36)) := (Below.refl _ W).alloc (Nat.le_refl _) _
  have hE0 : HasR (W.alloc (.cells #[.int .i64 e.k, .string e.s, .string e.t, .string e.r, .string e.v] 36)) W.heap.size 36 (evA e) := HasR.new W 36 _
  have F1 := hide (few_any v1 es _ (h1.turned bel0 (Nat.le_refl _)))
  rw [f1] at F1
  have F2 := hide (fun (wx : World) => few_any (.slice (some ⟨wx.heap.size, 0, none⟩) 1 1) [e] (wx.alloc (.cells #[.int .i64 e.k, .string e.s, .string e.t, .string e.r, .string e.v] 36)) (boxRow (HasR.new wx 36 _)))
  rw [f2] at F2
  have AP := hide (fun wx => applied_any wx)
  have hla := (few_brief f1).1
  have HB := hide (few_brief f1).2
  have HE := hide ((few_brief f2).2 e (by simp))
  have H1 := hide h1
  have E0 := hide hE0
  have B0 := hide bel0
  obtain ⟨ao1, cap1, rfl⟩ := h1.slice
  clear h1 f1 f2 bel0 hE0
  go_enter Try.func5, Try.ntmps5
  go_wp2_with (first
    | (go_at_call 10; (with_reducible refine F1.out.mono ?_); rintro x w1 ⟨rfl, hb1⟩
       have E1 := hide (E0.out.below hb1 E0.out.lt)
       have B1 := hide (B0.out.trans (hb1.mono B0.out.size))
       obtain ⟨k0, k1, k2, k3, k4⟩ := box_cells E1.out
       clear hb1)
    | (go_at_call 10; (with_reducible refine (F2.out _).mono ?_); rintro x w2 ⟨rfl, hb2⟩
       have hb3 := ((Below.refl _ w1).alloc (Nat.le_refl _) (.cells #[.int .i64 e.k, .string e.s, .string e.t, .string e.r, .string e.v] 36)).trans (hb2.mono (by simp))
       have E2 := hide (E1.out.below hb3 E1.out.lt)
       have B2 := hide (B1.out.trans (hb3.mono B1.out.size))
       clear hb2 hb3)
    | (go_at_call 11; (with_reducible refine (AP.out _).mono ?_); rintro x w3 ⟨rfl, hb4⟩
       have E3 := hide (E2.out.below hb4 E2.out.lt)
       have B3 := hide (B2.out.trans (hb4.mono B2.out.size))
       clear hb4))
  have HL := hide (three_new B3.out E3.out)
  clear F1 F2 AP E0 E1 E2 E3 B0 B1 B2 k0 k1 k2 k3 k4
  go_loopw [8] (fun i wr => ∃ (k : Nat) (mx my mz : Option Nat), k ≤ es.length ∧ i = .int .i64 k ∧ Three W wr w3.heap.size (w3.heap.size + 1) (w3.heap.size + 1 + 1) mx my mz k k k (runs (es.take k) tab0) (runs (es.take k) tab0) (runs (es.take k) tab0) (evA e)) (fun i _ => es.length - (intOf i).toNat)
  case atStart => exact ⟨0, none, none, none, Nat.zero_le _, rfl, HL.out⟩
  case round =>
    clear HL
    obtain ⟨k, mx, my, mz, hk, rfl, hT⟩ := hrel
    have T := hide hT
    clear hT
    by_cases hlt : k < es.length
    · have HR := hide (runs_take (es := es) (k := k) hlt tab0)
      have HBe := hide (HB.out _ (mem_at hlt))
      obtain ⟨b, off, rfl, hb, c0, c1, c2, c3, c4⟩ := (H1.out.turned T.out.below (Nat.le_refl _)).at hlt
      generalize es[k]! = f at c0 c1 c2 c3 c4 HR HBe
      have P := hide (apply_any w3.heap.size mx f k _ wr HBe.out (by omega) T.out.x)
      have hbW : b < W.heap.size := by
        rcases H1.out with ⟨_, h⟩ | ⟨b', off', cap', hv, hc, hb', hx⟩
        · subst h; simp at hlt
        · simp only [Value.slice.injEq, Option.some.injEq, Addr.mk.injEq] at hv
          omega
      generalize errOf f = er at P
      go_wp2_with (first
        | (go_at_call 12; (with_reducible refine P.out.mono ?_); rintro x w6 ⟨rfl, mx', hu⟩
           have T2 := hide (T.out.stepX hu)
           have P2 := hide (apply_any (w3.heap.size + 1) my f k _ w6 HBe.out (by omega) T2.out.y)
           have g := hide (hu.below T.out.below.size (fun j hj => by have := T.out.lowx j hj; omega))
           have d0 := (g.out.cell (p := ⟨b, off + k * 5, none⟩) hbW).trans c0
           have d1 := (g.out.cell (p := ⟨b, off + k * 5 + 1, none⟩) hbW).trans c1
           have d2 := (g.out.cell (p := ⟨b, off + k * 5 + 2, none⟩) hbW).trans c2
           have d3 := (g.out.cell (p := ⟨b, off + k * 5 + 3, none⟩) hbW).trans c3
           have d4 := (g.out.cell (p := ⟨b, off + k * 5 + 4, none⟩) hbW).trans c4
           clear hu)
        | (go_at_call 12; (with_reducible refine P2.out.mono ?_); rintro x w7 ⟨rfl, my', hu⟩
           have T3 := hide (T2.out.stepY hu)
           have P3 := hide (apply_any (w3.heap.size + 1 + 1) mz f k _ w7 HBe.out (by omega) T3.out.z)
           have g2 := hide (hu.below T2.out.below.size (fun j hj => by have := T2.out.lowy j hj; omega))
           have q0 := (g2.out.cell (p := ⟨b, off + k * 5, none⟩) hbW).trans d0
           have q1 := (g2.out.cell (p := ⟨b, off + k * 5 + 1, none⟩) hbW).trans d1
           have q2 := (g2.out.cell (p := ⟨b, off + k * 5 + 2, none⟩) hbW).trans d2
           have q3 := (g2.out.cell (p := ⟨b, off + k * 5 + 3, none⟩) hbW).trans d3
           have q4 := (g2.out.cell (p := ⟨b, off + k * 5 + 4, none⟩) hbW).trans d4
           clear hu)
        | (go_at_call 12; (with_reducible refine P3.out.mono ?_); rintro x w8 ⟨rfl, mz', hu⟩))
      go_roundw
      case rel => exact ⟨k + 1, mx', my', mz', by omega, by go_num, by rw [HR.out]; exact T3.out.stepZ hu⟩
      case measure => simp [intOf]; omega
    · have hke : k = es.length := by omega
      have hT2 := T.out
      rw [hke, List.take_length] at hT2
      subst hke
      clear T
      have T := hide hT2
      clear hT2
      have C1 := hide (cells_any w3.heap.size mx es.length _ wr (by omega) T.out.x)
      have hnm := hide (Named.runs named0 es)
      generalize runs es tab0 = σ at T C1 hnm
      obtain ⟨er, hq⟩ : ∃ er, errOf e = er := ⟨_, rfl⟩
      have HQ := hide hq
      clear hq
      cases hr : rightB e with
      | false =>
        have HK : Hid (rightB ⟨e.k, e.s, e.t, e.r, e.v⟩ = false) := hr
        have HA := hide (app_wrong hr σ)
        clear hr
        go_wp2_with (first
        | (go_at_call 14; (with_reducible refine C1.out.mono ?_); rintro x w4 ⟨v0, ds, rfl, o0, n0, r0, hb⟩
           obtain ⟨pp, cc, rfl⟩ := r0.len
           have T4 := hide (T.out.still hb)
           have O0 := hide (And.intro o0 (And.intro n0 r0))
           have P1 := hide (apply_any w3.heap.size mx e es.length _ w4 HE.out (by omega) T4.out.x)
           rw [HQ.out] at P1
           obtain ⟨k0, k1, k2, k3, k4⟩ := box_cells T4.out.box
           clear hb o0 r0)
        | (go_at_call 12; (with_reducible refine P1.out.mono ?_); rintro x w5 ⟨rfl, mx1, hu⟩
           have T5 := hide (T4.out.stepX hu)
           have R5 := hide (O0.out.2.2.upd T4.out.x hu)
           have P2 := hide (apply_any (w3.heap.size + 1) my e es.length _ w5 HE.out (by omega) T5.out.y)
           rw [HQ.out] at P2
           obtain ⟨k5, k6, k7, k8, k9⟩ := box_cells T5.out.box
           clear hu)
        | (go_at_call 12; (with_reducible refine P2.out.mono ?_); rintro x w6 ⟨rfl, my1, hu⟩
           have T6 := hide (T5.out.stepY hu)
           have R6 := hide (R5.out.upd T5.out.y hu)
           have P3 := hide (apply_any (w3.heap.size + 1) my1 e (es.length + 1) _ w6 HE.out (by omega) T6.out.y)
           rw [HQ.out] at P3
           obtain ⟨l0, l1, l2, l3, l4⟩ := box_cells T6.out.box
           clear hu)
        | (go_at_call 12; (with_reducible refine P3.out.mono ?_); rintro x w7 ⟨rfl, my2, hu⟩
           have t7 := T6.out.stepY hu
           rw [app_twice] at t7
           have T7 := hide t7
           have R7 := hide (R6.out.upd T6.out.y hu)
           have C2 := hide (cells_any w3.heap.size mx1 (es.length + 1) _ w7 (by omega) T7.out.x)
           clear hu t7)
        | (go_at_call 14; (with_reducible refine C2.out.mono ?_); rintro x w8 ⟨v8, ds8, rfl, o8, n8, r8, hb⟩
           have T8 := hide (T7.out.still hb)
           have R8 := hide (And.intro o8 (And.intro n8 (And.intro r8 (R7.out.still hb))))
           have C3 := hide (cells_any (w3.heap.size + 1) my2 (es.length + 1 + 1) _ w8 (by omega) T8.out.y)
           clear hb o8 r8)
        | (go_at_call 14; (with_reducible refine C3.out.mono ?_); rintro x w9 ⟨v9, ds9, rfl, o9, n9, r9, hb⟩
           obtain rfl := o9.eq R8.out.1
           have T9 := hide (T8.out.still hb)
           have R9 := hide (R8.out.2.2.2.still hb)
           have E9 := hide (equal_any _ _ v8 v9 ds9 w9 (R8.out.2.2.1.still hb) r9 (by omega))
           clear hb r9)
        | (go_at_call 24; (with_reducible refine E9.out.mono ?_); rintro x w10 ⟨rfl, hb⟩
           have T10 := hide (T9.out.still hb)
           have R10 := hide (R9.out.still hb)
           have RT := hide (rightE_any e.k e.s e.t e.r e.v w10)
           rw [HK.out] at RT
           obtain ⟨m0, m1, m2, m3, m4⟩ := box_cells T10.out.box
           clear hb))
        (with_reducible refine RT.out.mono ?_)
        rintro x w11 ⟨rfl, hb⟩
        have T11 := hide (T10.out.still hb)
        have R11 := hide (R10.out.still hb)
        clear hb
        have C4 := hide (cells_any w3.heap.size mx1 (es.length + 1) _ w11 (by omega) T11.out.x)
        go_wp2_with (first
        | (go_at_call 14; (with_reducible refine C4.out.mono ?_); rintro x w12 ⟨v12, ds12, rfl, o12, n12, r12, hb⟩
           have o13 := o12
           rw [HA.out] at o13
           obtain rfl := o13.eq O0.out.1
           have T12 := hide (T11.out.still hb)
           have E12 := hide (equal_any _ _ v12 _ ds12 w12 r12 (R11.out.still hb) (by omega))
           clear hb r12 o12 o13)
        | (go_at_call 24; (with_reducible refine E12.out.mono ?_); rintro x w13 ⟨rfl, hb⟩))
        go_ret
        exact ⟨rfl, T12.out.below.trans (hb.mono T12.out.below.size)⟩
      | true =>
        have HK : Hid (rightB ⟨e.k, e.s, e.t, e.r, e.v⟩ = true) := hr
        have HRt := hide hr
        have hkind := right_kind hr
        clear hr
        rcases hkind with hk | hk | hk
        · have HE2 := hide (show Brief ⟨2, e.s, e.t, e.r, ⟨#[]⟩⟩ from ⟨HE.out.s, HE.out.t, HE.out.r, show (⟨#[]⟩ : ByteArray).size ≤ 60 by decide⟩)
          have hrow := right_row HRt.out (.inl hk)
          have HD := hide (put_del (f := ⟨2, e.s, e.t, e.r, ⟨#[]⟩⟩) HRt.out (right_del hrow.1 hrow.2.1 hrow.2.2) hk rfl rfl rfl rfl σ)
          obtain ⟨er2, hq2⟩ : ∃ er2, errOf ⟨2, e.s, e.t, e.r, ⟨#[]⟩⟩ = er2 := ⟨_, rfl⟩
          have HQ2 := hide hq2
          clear hq2 hrow
          go_wp2_with (first
          | (go_at_call 14; (with_reducible refine C1.out.mono ?_); rintro x w4 ⟨v0, ds, rfl, o0, n0, r0, hb⟩
             obtain ⟨pp, cc, rfl⟩ := r0.len
             have T4 := hide (T.out.still hb)
             have O0 := hide (And.intro o0 (And.intro n0 r0))
             have P1 := hide (apply_any w3.heap.size mx e es.length _ w4 HE.out (by omega) T4.out.x)
             rw [HQ.out, hk] at P1
             obtain ⟨k0, k1, k2, k3, k4⟩ := box_cells T4.out.box
             clear hb o0 r0)
          | (go_at_call 12; (with_reducible refine P1.out.mono ?_); rintro x w5 ⟨rfl, mx1, hu⟩
             have T5 := hide (T4.out.stepX hu)
             have R5 := hide (O0.out.2.2.upd T4.out.x hu)
             have P2 := hide (apply_any (w3.heap.size + 1) my e es.length _ w5 HE.out (by omega) T5.out.y)
             rw [HQ.out, hk] at P2
             obtain ⟨k5, k6, k7, k8, k9⟩ := box_cells T5.out.box
             clear hu)
          | (go_at_call 12; (with_reducible refine P2.out.mono ?_); rintro x w6 ⟨rfl, my1, hu⟩
             have T6 := hide (T5.out.stepY hu)
             have R6 := hide (R5.out.upd T5.out.y hu)
             have P3 := hide (apply_any (w3.heap.size + 1) my1 e (es.length + 1) _ w6 HE.out (by omega) T6.out.y)
             rw [HQ.out, hk] at P3
             obtain ⟨l0, l1, l2, l3, l4⟩ := box_cells T6.out.box
             clear hu)
          | (go_at_call 12; (with_reducible refine P3.out.mono ?_); rintro x w7 ⟨rfl, my2, hu⟩
             have t7 := T6.out.stepY hu
             rw [app_twice] at t7
             have T7 := hide t7
             have R7 := hide (R6.out.upd T6.out.y hu)
             have C2 := hide (cells_any w3.heap.size mx1 (es.length + 1) _ w7 (by omega) T7.out.x)
             clear hu t7)
          | (go_at_call 14; (with_reducible refine C2.out.mono ?_); rintro x w8 ⟨v8, ds8, rfl, o8, n8, r8, hb⟩
             have T8 := hide (T7.out.still hb)
             have R8 := hide (And.intro o8 (And.intro n8 (And.intro r8 (R7.out.still hb))))
             have C3 := hide (cells_any (w3.heap.size + 1) my2 (es.length + 1 + 1) _ w8 (by omega) T8.out.y)
             clear hb o8 r8)
          | (go_at_call 14; (with_reducible refine C3.out.mono ?_); rintro x w9 ⟨v9, ds9, rfl, o9, n9, r9, hb⟩
             obtain rfl := o9.eq R8.out.1
             have T9 := hide (T8.out.still hb)
             have R9 := hide (R8.out.2.2.2.still hb)
             have E9 := hide (equal_any _ _ v8 v9 ds9 w9 (R8.out.2.2.1.still hb) r9 (by omega))
             clear hb r9)
          | (go_at_call 24; (with_reducible refine E9.out.mono ?_); rintro x w10 ⟨rfl, hb⟩
             have T10 := hide (T9.out.still hb)
             have R10 := hide (R9.out.still hb)
             have RT := hide (rightE_any e.k e.s e.t e.r e.v w10)
             rw [HK.out, hk] at RT
             obtain ⟨m0, m1, m2, m3, m4⟩ := box_cells T10.out.box
             clear hb))
          (with_reducible refine RT.out.mono ?_)
          rintro x w11 ⟨rfl, hb⟩
          have T11 := hide (T10.out.still hb)
          have R11 := hide (R10.out.still hb)
          clear hb
          have t12 : Three W _ w3.heap.size (w3.heap.size + 1) (w3.heap.size + 1 + 1) mx1 my2 mz _ _ _ _ _ _ (evA ⟨2, e.s, e.t, e.r, ⟨#[]⟩⟩) := (T11.out.set 0 (.int .i64 2)).set 4 (.string ⟨#[]⟩)
          obtain ⟨z0, z1, z2, z3, z4⟩ := box_cells T11.out.box
          have g0 := T11.out.box.free 0
          have g4 := T11.out.box.free 4
          have P4 := hide (apply_any w3.heap.size mx1 ⟨2, e.s, e.t, e.r, ⟨#[]⟩⟩ (es.length + 1) _ _ HE2.out (by omega) t12.x)
          rw [HQ2.out] at P4
          have T12p := hide t12
          have R12a : RowC (w11.setCell ⟨W.heap.size, 0, none⟩ (.int .i64 2)) _ _ ds := R11.out.box T11.out.box rfl 0 rfl
          have R12b : RowC ((w11.setCell ⟨W.heap.size, 0, none⟩ (.int .i64 2)).setCell ⟨W.heap.size, 4, none⟩ (.string ⟨#[]⟩)) _ _ ds := R12a.box (T11.out.set 0 (.int .i64 2)).box rfl 4 rfl
          have R12p := hide R12b
          clear R12a R12b
          clear t12
          go_wp2_with (first
          | (go_at_call 12; (with_reducible refine P4.out.mono ?_); rintro x w12 ⟨rfl, mx2, hu⟩
             have T12 := hide (T12p.out.stepX hu)
             have R12 := hide (R12p.out.upd T12p.out.x hu)
             have CL := hide (clone_any _ _ ds w12 R12.out (by omega))
             clear hu)
          | (go_at_call 26; (with_reducible refine CL.out.mono ?_); rintro x w13 ⟨u, rfl, ho, hb⟩
             obtain ⟨y0, y1, y2, y3, y4⟩ := box_cells (T12.out.still hb).box
             have ST := hide (strike_any w12.heap.size W.heap.size u ds e.t e.r w13 ho T12.out.box.lt (by omega) y2 y3)
             have BC := hide hb
             clear hb)
          | (go_at_call 25; (with_reducible refine ST.out.mono ?_); rintro x w14 ⟨u2, rfl, r14, hb⟩
             have T14 := hide (T12.out.still (BC.out.trans hb))
             have C5 := hide (cells_any w3.heap.size mx2 (es.length + 1 + 1) _ w14 (by omega) T14.out.x)
             have R14 := hide r14
             clear hb r14)
          | (go_at_call 14; (with_reducible refine C5.out.mono ?_); rintro x w15 ⟨v15, ds15, rfl, o15, n15, r15, hb⟩
             have o16 := o15
             rw [HD.out] at o16
             obtain rfl := o16.eq (O0.out.1.without e)
             have T15 := hide (T14.out.still hb)
             have E15 := hide (equal_any _ _ v15 u2 _ w15 r15 (R14.out.still hb) (by omega))
             clear hb r15 o15 o16)
          | (go_at_call 24; (with_reducible refine E15.out.mono ?_); rintro x w16 ⟨rfl, hb⟩))
          go_ret
          exact ⟨rfl, T15.out.below.trans (hb.mono T15.out.below.size)⟩
        · have hk2 := hk
          clear hk2
          go_wp2_with (first
          | (go_at_call 14; (with_reducible refine C1.out.mono ?_); rintro x w4 ⟨v0, ds, rfl, o0, n0, r0, hb⟩
             obtain ⟨pp, cc, rfl⟩ := r0.len
             have T4 := hide (T.out.still hb)
             have O0 := hide (And.intro o0 (And.intro n0 r0))
             have P1 := hide (apply_any w3.heap.size mx e es.length _ w4 HE.out (by omega) T4.out.x)
             rw [HQ.out, hk] at P1
             obtain ⟨k0, k1, k2, k3, k4⟩ := box_cells T4.out.box
             clear hb o0 r0)
          | (go_at_call 12; (with_reducible refine P1.out.mono ?_); rintro x w5 ⟨rfl, mx1, hu⟩
             have T5 := hide (T4.out.stepX hu)
             have R5 := hide (O0.out.2.2.upd T4.out.x hu)
             have P2 := hide (apply_any (w3.heap.size + 1) my e es.length _ w5 HE.out (by omega) T5.out.y)
             rw [HQ.out, hk] at P2
             obtain ⟨k5, k6, k7, k8, k9⟩ := box_cells T5.out.box
             clear hu)
          | (go_at_call 12; (with_reducible refine P2.out.mono ?_); rintro x w6 ⟨rfl, my1, hu⟩
             have T6 := hide (T5.out.stepY hu)
             have R6 := hide (R5.out.upd T5.out.y hu)
             have P3 := hide (apply_any (w3.heap.size + 1) my1 e (es.length + 1) _ w6 HE.out (by omega) T6.out.y)
             rw [HQ.out, hk] at P3
             obtain ⟨l0, l1, l2, l3, l4⟩ := box_cells T6.out.box
             clear hu)
          | (go_at_call 12; (with_reducible refine P3.out.mono ?_); rintro x w7 ⟨rfl, my2, hu⟩
             have t7 := T6.out.stepY hu
             rw [app_twice] at t7
             have T7 := hide t7
             have R7 := hide (R6.out.upd T6.out.y hu)
             have C2 := hide (cells_any w3.heap.size mx1 (es.length + 1) _ w7 (by omega) T7.out.x)
             clear hu t7)
          | (go_at_call 14; (with_reducible refine C2.out.mono ?_); rintro x w8 ⟨v8, ds8, rfl, o8, n8, r8, hb⟩
             have T8 := hide (T7.out.still hb)
             have R8 := hide (And.intro o8 (And.intro n8 (And.intro r8 (R7.out.still hb))))
             have C3 := hide (cells_any (w3.heap.size + 1) my2 (es.length + 1 + 1) _ w8 (by omega) T8.out.y)
             clear hb o8 r8)
          | (go_at_call 14; (with_reducible refine C3.out.mono ?_); rintro x w9 ⟨v9, ds9, rfl, o9, n9, r9, hb⟩
             obtain rfl := o9.eq R8.out.1
             have T9 := hide (T8.out.still hb)
             have R9 := hide (R8.out.2.2.2.still hb)
             have E9 := hide (equal_any _ _ v8 v9 ds9 w9 (R8.out.2.2.1.still hb) r9 (by omega))
             clear hb r9)
          | (go_at_call 24; (with_reducible refine E9.out.mono ?_); rintro x w10 ⟨rfl, hb⟩
             have T10 := hide (T9.out.still hb)
             have R10 := hide (R9.out.still hb)
             have RT := hide (rightE_any e.k e.s e.t e.r e.v w10)
             rw [HK.out, hk] at RT
             obtain ⟨m0, m1, m2, m3, m4⟩ := box_cells T10.out.box
             clear hb))
          (with_reducible refine RT.out.mono ?_)
          rintro x w11 ⟨rfl, hb⟩
          have T11 := hide (T10.out.still hb)
          have R11 := hide (R10.out.still hb)
          clear hb
          obtain ⟨z0, z1, z2, z3, z4⟩ := box_cells T11.out.box
          go_wp2
          go_ret
          exact ⟨rfl, T11.out.below⟩
        · have HG := hide hk
          go_wp2_with (first
          | (go_at_call 14; (with_reducible refine C1.out.mono ?_); rintro x w4 ⟨v0, ds, rfl, o0, n0, r0, hb⟩
             obtain ⟨pp, cc, rfl⟩ := r0.len
             have T4 := hide (T.out.still hb)
             have O0 := hide (And.intro o0 (And.intro n0 r0))
             have P1 := hide (apply_any w3.heap.size mx e es.length _ w4 HE.out (by omega) T4.out.x)
             rw [HQ.out, hk] at P1
             obtain ⟨k0, k1, k2, k3, k4⟩ := box_cells T4.out.box
             clear hb o0 r0)
          | (go_at_call 12; (with_reducible refine P1.out.mono ?_); rintro x w5 ⟨rfl, mx1, hu⟩
             have T5 := hide (T4.out.stepX hu)
             have R5 := hide (O0.out.2.2.upd T4.out.x hu)
             have P2 := hide (apply_any (w3.heap.size + 1) my e es.length _ w5 HE.out (by omega) T5.out.y)
             rw [HQ.out, hk] at P2
             obtain ⟨k5, k6, k7, k8, k9⟩ := box_cells T5.out.box
             clear hu)
          | (go_at_call 12; (with_reducible refine P2.out.mono ?_); rintro x w6 ⟨rfl, my1, hu⟩
             have T6 := hide (T5.out.stepY hu)
             have R6 := hide (R5.out.upd T5.out.y hu)
             have P3 := hide (apply_any (w3.heap.size + 1) my1 e (es.length + 1) _ w6 HE.out (by omega) T6.out.y)
             rw [HQ.out, hk] at P3
             obtain ⟨l0, l1, l2, l3, l4⟩ := box_cells T6.out.box
             clear hu)
          | (go_at_call 12; (with_reducible refine P3.out.mono ?_); rintro x w7 ⟨rfl, my2, hu⟩
             have t7 := T6.out.stepY hu
             rw [app_twice] at t7
             have T7 := hide t7
             have R7 := hide (R6.out.upd T6.out.y hu)
             have C2 := hide (cells_any w3.heap.size mx1 (es.length + 1) _ w7 (by omega) T7.out.x)
             clear hu t7)
          | (go_at_call 14; (with_reducible refine C2.out.mono ?_); rintro x w8 ⟨v8, ds8, rfl, o8, n8, r8, hb⟩
             have T8 := hide (T7.out.still hb)
             have R8 := hide (And.intro o8 (And.intro n8 (And.intro r8 (R7.out.still hb))))
             have C3 := hide (cells_any (w3.heap.size + 1) my2 (es.length + 1 + 1) _ w8 (by omega) T8.out.y)
             clear hb o8 r8)
          | (go_at_call 14; (with_reducible refine C3.out.mono ?_); rintro x w9 ⟨v9, ds9, rfl, o9, n9, r9, hb⟩
             obtain rfl := o9.eq R8.out.1
             have T9 := hide (T8.out.still hb)
             have R9 := hide (R8.out.2.2.2.still hb)
             have E9 := hide (equal_any _ _ v8 v9 ds9 w9 (R8.out.2.2.1.still hb) r9 (by omega))
             clear hb r9)
          | (go_at_call 24; (with_reducible refine E9.out.mono ?_); rintro x w10 ⟨rfl, hb⟩
             have T10 := hide (T9.out.still hb)
             have R10 := hide (R9.out.still hb)
             have RT := hide (rightE_any e.k e.s e.t e.r e.v w10)
             rw [HK.out, hk] at RT
             obtain ⟨m0, m1, m2, m3, m4⟩ := box_cells T10.out.box
             clear hb))
          (with_reducible refine RT.out.mono ?_)
          rintro x w11 ⟨rfl, hb⟩
          have T11 := hide (T10.out.still hb)
          have R11 := hide (R10.out.still hb)
          clear hb
          obtain ⟨z0, z1, z2, z3, z4⟩ := box_cells T11.out.box
          go_wp2
          have hgd := hide (gone_dels HRt.out hk hnm.out O0.out.1)
          have hsm := hide (fun c (hc : c ∈ ds) => T.out.x.small ((O0.out.1.2 c).1 hc))
          have hnd := O0.out.2.1
          go_loopw [11] (fun p wr2 => ∃ (j : Nat) (mz2 : Option Nat), j ≤ ds.length ∧ p = .int .i64 j ∧ Three W wr2 w3.heap.size (w3.heap.size + 1) (w3.heap.size + 1 + 1) mx1 my2 mz2 (es.length + 1) (es.length + 1 + 1) (es.length + j) (app e σ) (app e σ) (runs ((ds.map (delOf e.s)).take j) σ) (evA e) ∧ RowC wr2 wr.heap.size (.slice pp ds.length cc) ds) (fun p _ => ds.length - (intOf p).toNat)
          case atStart => exact ⟨0, mz, Nat.zero_le _, rfl, T11.out, R11.out⟩
          case round =>
            obtain ⟨j, mz2, hj, rfl, hTj, hRj⟩ := hrel
            have TJ := hide hTj
            have RJ := hide hRj
            clear hTj hRj T11 R11
            by_cases hlt2 : j < ds.length
            · have HR := hide (dels_take (s := e.s) hlt2 σ)
              have hs := hsm.out _ (mem_atC hlt2)
              obtain ⟨g, rfl, hg, c0, c1, c2, c3⟩ := RJ.out.at hlt2
              obtain ⟨c, hc⟩ : ∃ c, ds[j]! = c := ⟨_, rfl⟩
              rw [hc] at c0 c1 c2 c3 HR hs
              have HC := hide hc
              clear hc
              obtain ⟨y0, y1, y2, y3, y4⟩ := box_cells TJ.out.box
              have TJd := hide (TJ.out.still (Below.refl _ wr).drew)
              have RJd := hide (RJ.out.still (Below.refl _ wr).drew)
              have P5 := hide (apply_any (w3.heap.size + 1 + 1) mz2 ⟨2, e.s, c.t, c.r, ⟨#[]⟩⟩ (es.length + j) _ wr.drew ⟨HE.out.s, hs.t, hs.r, show (⟨#[]⟩ : ByteArray).size ≤ 60 by decide⟩ (by omega) TJd.out.z)
              generalize errOf ⟨2, e.s, c.t, c.r, ⟨#[]⟩⟩ = er5 at P5
              go_wp2
              go_region_held3 (fun wx => wx.cell? ⟨W.heap.size, 1, none⟩ = some (.string e.s) ∧ wx.cell? ⟨g, j * 4, none⟩ = some (.string c.t) ∧ wx.cell? ⟨g, j * 4 + 1, none⟩ = some (.string c.r)) (first | (with_reducible exact K6.out) | go_keep)
                ((go_at_call 12; (with_reducible refine P5.out.mono ?_); rintro x w12 ⟨rfl, mz3, hu⟩; have T12 := hide (TJd.out.stepZ hu); have R12 := hide (RJd.out.upd TJd.out.z hu); have K6 := hide (strike_keep T12.out.box R12.out hlt2 HC.out); clear hu))
              go_wp2
              exact ⟨⟨j + 1, mz3, by omega, by go_num, by rw [HR.out]; exact T12.out, R12.out⟩, by simp [intOf]; omega⟩
            · have hje : j = ds.length := by omega
              have t20 := TJ.out
              rw [hje, List.take_of_length_le (by simp), hgd.out] at t20
              have T20 := hide t20
              clear t20 TJ RJ
              have C6 := hide (cells_any w3.heap.size mx1 (es.length + 1) _ wr (by omega) T20.out.x)
              go_wp2_with (first
                | (go_at_call 14; (with_reducible refine C6.out.mono ?_); rintro x w21 ⟨v21, ds21, rfl, o21, n21, r21, hb⟩
                   have T21 := hide (T20.out.still hb)
                   have C7 := hide (cells_any (w3.heap.size + 1 + 1) mz2 (es.length + ds.length) _ w21 (by omega) T21.out.z)
                   have Q21 := hide (And.intro o21 (And.intro n21 r21))
                   clear hb o21 r21)
                | (go_at_call 14; (with_reducible refine C7.out.mono ?_); rintro x w22 ⟨v22, ds22, rfl, o22, n22, r22, hb⟩
                   obtain rfl := o22.eq Q21.out.1
                   have T22 := hide (T21.out.still hb)
                   have E22 := hide (equal_any _ _ v21 v22 ds22 w22 (Q21.out.2.2.still hb) r22 (by omega))
                   clear hb r22)
                | (go_at_call 24; (with_reducible refine E22.out.mono ?_); rintro x w23 ⟨rfl, hb⟩))
              go_ret
              exact ⟨rfl, T22.out.below.trans (hb.mono T22.out.below.size)⟩
end Go.Proofs.Ytpfihhilgeihoaa
