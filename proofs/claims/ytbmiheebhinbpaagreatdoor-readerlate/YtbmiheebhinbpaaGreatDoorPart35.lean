/- Texts of this proof, one behind the other. -/
import Derived.Test.YtbmiheebhinbpaaGreatDoorPart34
/- What was read is read: the law's own walk. -/
namespace Go.Proofs.YtbmiheebhinbpaaGreatDoor
open Go.RowKit Go.Sort
attribute [local go_sem ↓] Go.wp_at_zero Go.wp_at_succ
set_option linter.unusedSectionVars false
variable [Inhabited Cl] [Inhabited Ev]
/-- Numbers in a row of memory. -/
def IntRow (w : World) (v : Value) (zs : List Int) : Prop :=
  ((∃ ao cap, v = .slice ao 0 cap) ∧ zs = []) ∨ ∃ b off cap, v = .slice (some ⟨b, off, none⟩) zs.length cap ∧ zs.length ≤ cap ∧ ∀ j, j < zs.length → w.cell? ⟨b, off + j, none⟩ = some (.int .i64 (zs.getD j 0))
theorem IntRow.slice {w : World} {v : Value} {zs : List Int} (h : IntRow w v zs) : ∃ ao cap, v = .slice ao zs.length cap := by
  rcases h with ⟨⟨ao, cap, rfl⟩, rfl⟩ | ⟨b, off, cap, rfl, _⟩
  · exact ⟨_, _, rfl⟩
  · exact ⟨_, _, rfl⟩
theorem IntRow.spot {w wx : World} {ao : Option Addr} {n cap k B : Nat} {zs : List Int} (h : IntRow w (.slice ao n cap) zs) (hk : k < zs.length) (hb : Below B w wx) (hB : w.heap.size ≤ B) : ∃ b off, ao = some ⟨b, off, none⟩ ∧ zs.length ≤ cap ∧ wx.cell? ⟨b, off + k, none⟩ = some (.int .i64 (zs.getD k 0)) := by
  rcases h with ⟨_, rfl⟩ | ⟨b, off, cap', hv, hc, hx⟩
  · simp at hk
  · simp only [Value.slice.injEq] at hv
    have h1 := hx k hk
    have lt : b < w.heap.size := block_lt_of_cell h1
    exact ⟨b, off, hv.1, by rw [hv.2.2]; exact hc, (hb.cell (p := ⟨b, off + k, none⟩) (by show b < B; omega)).trans h1⟩
/-- What the loop has: a source to which all happened, its records, a reader of the first n of them. -/
structure Ra (w0 w : World) (B Br rb : Nat) (st : Hst) (n base : Nat) (vf : Value) : Prop where
  src : ∃ mt mv v, Src B w (B + 2) (B + 1) B mt mv v st.ok.length st.ok.length secB st.σ st.τ st.rs ∧ ∀ j ∈ ownS (B + 2) (B + 1) B mt mv v, j < Br
  fd : w.ownsRow base 44 5 vf st.ok.length (recsL st.rs)
  fdl : ∀ g, vf.ownBlock = some g → g < Br
  rl : Rl w Br B rb st n
  bel : Below w0.heap.size w0 w
theorem Ra.still {w0 w w' : World} {B Br rb : Nat} {st : Hst} {n base : Nat} {vf : Value} (h : Ra w0 w B Br rb st n base vf) (b : Below w.heap.size w w') : Ra w0 w' B Br rb st n base vf := by
  obtain ⟨mt, mv, v, hS, hl⟩ := h.src
  exact ⟨⟨mt, mv, v, hS.still b, hl⟩, ownsRow_below h.fd b, h.fdl, h.rl.still b, h.bel.trans (b.mono h.bel.size)⟩
theorem Ra.bare {w0 w : World} {B Br rb : Nat} {st : Hst} {n base : Nat} {vf : Value} (h : Ra w0 w B Br rb st n base vf) : ∃ mt mv v, Src B w (B + 2) (B + 1) B mt mv v st.ok.length st.ok.length secB st.σ st.τ st.rs := by
  obtain ⟨mt, mv, v, hS, _⟩ := h.src
  exact ⟨mt, mv, v, hS⟩
theorem Ra.vault {w0 w : World} {B Br rb : Nat} {st : Hst} {n base : Nat} {vf : Value} (h : Ra w0 w B Br rb st n base vf) : Calls Tryz.prog 20 #[.pointer (some ⟨B + 2, 0, none⟩)] w fun x w' => x = .returned (.pointer (some ⟨B, 0, none⟩)) ∧ w' = w := by
  obtain ⟨mt, mv, v, hS, _⟩ := h.src
  exact srcVault_any _ w _ _ _ _ _ _ _ _ _ _ _ _ hS
theorem Ra.read {w0 w : World} {B Br rb : Nat} {st : Hst} {n base : Nat} {vf : Value} (h : Ra w0 w B Br rb st n base vf) (hw : w0.heap.size ≤ Br) (hd : Did secB st) (T : Tabs w) (h3 : 3 < Br) (hn : st.ok.length < 100) (hk : n < st.ok.length) (hbr : Brief (st.ok.getD n ev0)) :
    Calls Tryz.prog 43 #[.pointer (some ⟨rb, 0, none⟩), .agg #[.int .i64 ((st.rs.getD n recZ).q : Int), .string (st.rs.getD n recZ).s, .int .i64 ((st.rs.getD n recZ).g : Int), .string (st.rs.getD n recZ).p, .string (st.rs.getD n recZ).d]] w fun x w' => x = .returned .nilIface ∧ Ra w0 w' B Br rb st (n + 1) base vf := by
  obtain ⟨mt, mv, v, hS, hl⟩ := h.src
  refine (h.rl.read hd ⟨mt, mv, v, hS⟩ T h3 hn hk hbr).mono ?_
  rintro x w' ⟨rfl, hR, L, hst, hL⟩
  refine ⟨rfl, ⟨mt, mv, v, hS.turned hst (fun j hj hm => ?_), hl⟩, ownsRow_turned h.fd hst (fun g hg hm => ?_), h.fdl, hR, h.bel.trans (hst.below h.bel.size (fun j hj => Nat.le_trans hw (hL j hj).1))⟩
  · have a := hl j hj
    have b := (hL j hm).1
    omega
  · have a := h.fdl g hg
    have b := (hL g hm).1
    omega
theorem Ra.old {w0 w : World} {B Br rb : Nat} {st : Hst} {n base : Nat} {vf : Value} (h : Ra w0 w B Br rb st n base vf) (r : Rec) (h1 : 1 ≤ r.q) (h2 : r.q ≤ n) :
    Calls Tryz.prog 43 #[.pointer (some ⟨rb, 0, none⟩), .agg #[.int .i64 (r.q : Int), .string r.s, .int .i64 (r.g : Int), .string r.p, .string r.d]] w fun x w' => x = .returned .nilIface ∧ Below w.heap.size w w' := by
  obtain ⟨mr, nt, mark, hT, _⟩ := h.rl.rd
  exact read_old w rb B n _ mark mr nt _ r hT h1 h2
theorem Ra.order {w0 w : World} {B Br rb : Nat} {st : Hst} {n base : Nat} {vf : Value} (h : Ra w0 w B Br rb st n base vf) (r : Rec) (h1 : n + 1 < r.q) (h2 : r.q < 1000) :
    Calls Tryz.prog 43 #[.pointer (some ⟨rb, 0, none⟩), .agg #[.int .i64 (r.q : Int), .string r.s, .int .i64 (r.g : Int), .string r.p, .string r.d]] w fun x w' => x = .returned (.iface 45 (.int .i64 10)) ∧ Below w.heap.size w w' := by
  obtain ⟨mr, nt, mark, hT, _⟩ := h.rl.rd
  exact read_order w rb B n _ mark mr nt _ r hT h1 h2
set_option maxRecDepth 100000 in
set_option maxHeartbeats 8000000 in
theorem ragain_any (v : Value) (es : List Ev) (vz : Value) (zs : List Int) (w : World) (T : Tabs w) (hv : EvRow w v es) (hz : IntRow w vz zs) :
    Calls Tryz.prog 10 #[v, vz] w fun x w' => x = .returned (.bool true) ∧ Below w.heap.size w w' := by
  have F := hide (few_any v es w hv)
  have TK := T.k.lt
  have TT := hide T
  have HV := hide hv
  have HZ := hide hz
  obtain ⟨ao, cap, rfl⟩ := hv.slice
  obtain ⟨az, cz, rfl⟩ := hz.slice
  clear hv T hz
  cases hf : fewB es
  · rw [hf] at F
    go_enter Tryz.func10, Tryz.ntmps10
    go_wp2_with (go_at_call 12; (with_reducible refine F.out.mono ?_); rintro x w1 ⟨rfl, hb1⟩)
    go_ret
    exact ⟨rfl, hb1⟩
  · rw [hf] at F
    obtain ⟨h30, hbr⟩ := few_brief hf
    have BR := hide hbr
    clear hf hbr
    by_cases h60 : 60 < zs.length
    · have d1 : decide ((60 : Int) < (zs.length : Int)) = true := decide_eq_true (by omega)
      have d2 : (60 : Int) < (zs.length : Int) := by omega
      go_enter Tryz.func10, Tryz.ntmps10
      go_wp2_with (go_at_call 12; (with_reducible refine F.out.mono ?_); rintro x w1 ⟨rfl, hb1⟩)
      go_ret
      exact ⟨rfl, hb1⟩
    · have d1 : decide ((60 : Int) < (zs.length : Int)) = false := decide_eq_false (by omega)
      have d2 : ¬ (60 : Int) < (zs.length : Int) := by omega
      have hps := ptrS_nil
      have hpr := ptrR_nil
      have hne := nilNe
      have hDid := hide (Did.hist (sec := secB) es Did.none)
      have hfew := hist_few (sec := secB) es hst0
      have hf0 : hst0.ok.length = 0 := rfl
      have BRO := hide (fun e (he : e ∈ (hist secB es hst0).ok) => BR.out e (by rcases hist_sub (sec := secB) es hst0 e he with h | h; (simp [hst0] at h); (exact h)))
      have DA := hide (fun wx (hb : Below w.heap.size w wx) => done_any (.slice ao es.length cap) es wx (TT.out.below hb TK) (HV.out.turned hb (Nat.le_refl _)) (by omega) BR.out)
      generalize hist secB es hst0 = st at hDid hfew DA BRO
      have hok : st.ok.length ≤ 30 := by omega
      have HRL := hide hDid.out.recs.1
      have HQ := hide (fun k hk => (hDid.out.recs.2 k hk).2.1)
      clear hfew hf0
      go_enter Tryz.func10, Tryz.ntmps10
      go_wp2_with (first
        | (go_at_call 12; (with_reducible refine F.out.mono ?_); rintro x w1 ⟨rfl, hb1⟩
           have B1 := hide hb1
           have F2 := hide (fed_any w1 (TT.out.below hb1 TK))
           clear hb1)
        | (go_at_call 13; (with_reducible refine F2.out.mono ?_); rintro x w3 ⟨rfl, hb2⟩
           have B3 := hide (B1.out.trans (hb2.mono B1.out.size))
           clear hb2)
        | (go_at_call 14; (with_reducible refine (DA.out _ B3.out).mono ?_); rintro x w4 ⟨vok, vrows, vals, rfl, hD, hvl, hb4⟩
           have B4 := hide (B3.out.trans (hb4.mono B3.out.size))
           have D4 := hide hD
           obtain ⟨mt, mv, vv, hS, _⟩ := D4.out.src
           have FE := hide (srcFeed_any _ _ _ _ _ _ _ _ _ _ _ _ _ _ hS (by rw [HRL.out]; omega))
           clear hD hb4 hS)
        | (go_at_call 15; (with_reducible refine FE.out.mono ?_); rintro x w5 ⟨vf, rfl, hr5, hb5⟩
           rw [HRL.out] at hr5
           have B5 := hide (B4.out.trans (hb5.mono B4.out.size))
           obtain ⟨mt, mv, vv, hS, _⟩ := (D4.out.still hb5).src
           have VA := hide (srcVault_any _ w5 _ _ _ _ _ _ _ _ _ _ _ _ hS)
           have RN := hide (rdNew_ok w3.heap.size w5)
           have Z5 := (Below.refl _ w5).alloc (Nat.le_refl _) (.cells #[.pointer (some ⟨w3.heap.size, 0, none⟩), .int .i64 0, .string ⟨#[]⟩, .int .i64 0, .map none] 124)
           have L0 := hide (Ra.mk (w0 := w) (B := w3.heap.size) ⟨mt, mv, vv, hS.still Z5, hS.oldO⟩ (ownsRow_below hr5 Z5) (fun g hg => (hr5.lt g hg).2) (Rl.start w5 w3.heap.size st) (B5.out.trans (Z5.mono B5.out.size)))
           have hcf : ∃ pf cf, vf = .slice pf st.ok.length cf ∧ st.ok.length ≤ cf := by
             rcases hr5.2 with ⟨e1, e0⟩ | ⟨g, cap', cur, e1, _, _, a1, _⟩
             · exact ⟨none, 0, by rw [e1, e0], by omega⟩
             · exact ⟨_, _, e1, a1⟩
           obtain ⟨pf, cf, rfl, hcf⟩ := hcf
           clear hr5 hb5 hS Z5 FE)
        | (go_at_call 20; (with_reducible refine VA.out.mono ?_); rintro x w6 ⟨rfl, hw6⟩; obtain rfl := hw6.symm)
        | (go_at_call 42; (with_reducible refine RN.out.mono ?_); rintro x w7 ⟨rfl, hw7⟩; obtain rfl := hw7.symm))
      have hB5 := B5.out.size
      clear F DA B1 F2 D4 VA RN B4 B5
      go_loopw [11, 12] (fun a i wr => ∃ n k : Nat, a = .int .i64 n ∧ i = .int .i64 k ∧ k ≤ zs.length ∧ n ≤ st.ok.length ∧ Ra w wr w3.heap.size w5.heap.size w5.heap.size st n _ (.slice pf st.ok.length cf)) (fun _ i _ => zs.length - (intOf i).toNat)
      case atStart => exact ⟨0, 0, rfl, rfl, Nat.zero_le _, Nat.zero_le _, L0.out⟩
      case round =>
        clear L0 hps hpr
        obtain ⟨n, k, rfl, rfl, hk, hn, hI⟩ := hrel
        have L := hide hI
        clear hI
        by_cases hgo : k < zs.length ∧ 0 < st.ok.length
        · obtain ⟨hlt, hpos⟩ := hgo
          obtain ⟨bz, oz, rfl, hcz, z0⟩ := HZ.out.spot hlt L.out.bel (Nat.le_refl _)
          have lz : bz < wr.heap.size := block_lt_of_cell z0
          have PK := hide (pick_any (zs.getD k 0) st.ok.length hpos (by omega) wr)
          generalize zs.getD k 0 = z at z0 PK
          have p1 : (0 : Int) < (st.ok.length : Int) := by omega
          have p2 : decide ((0 : Int) < (st.ok.length : Int)) = true := decide_eq_true p1
          have i1 : (k : Int) < (zs.length : Int) := by omega
          have CE := hide (L.out.rl.cells (by omega))
          go_upto_region 18 with (first
            | (go_at_call 51; (with_reducible refine PK.out.mono ?_); rintro x w8 ⟨c, hc, rfl, hw8⟩; obtain rfl := hw8.symm)
            | (go_at_call 44; (with_reducible refine CE.out.mono ?_); rintro x w9 ⟨u, ds, rfl, ho, hl, hr, hb⟩
               have L9 := hide (L.out.still hb)
               have O9 := hide ho
               have W9 := hide hr
               clear ho hr hb))
          obtain ⟨gf, rfl, _⟩ := block_of L9.out.fd hpos
          obtain ⟨f0, f1, f2, f3, f4, hgf⟩ := recs_c L9.out.fd HRL.out hc
          have q1 : (c : Int) < (st.ok.length : Int) := by omega
          have hq := HQ.out c hc
          rcases Nat.lt_trichotomy c n with hcn | hcn | hcn
          · have e1 : ((c : Int) == (n : Int)) = false := by rw [beq_eq_false_iff_ne]; omega
            have e2 : decide ((n : Int) < (c : Int)) = false := decide_eq_false (by omega)
            have e3 : ¬ (n : Int) < (c : Int) := by omega
            have e4 : ¬ (c : Int) = (n : Int) := by omega
            have RD := hide (L9.out.old (st.rs.getD c recZ) (by omega) (by omega))
            generalize st.rs.getD c recZ = r at f0 f1 f2 f3 f4 RD hq
            clear hq
            go_wp2_with (first
              | (go_at_call 43; (with_reducible refine RD.out.mono ?_); rintro x w10 ⟨rfl, hb⟩
                 have L10 := hide (L9.out.still hb)
                 have W10 := hide (W9.out.below hb (Nat.le_refl _))
                 have C10 := hide (L10.out.rl.cells (by omega))
                 clear hb)
              | (go_at_call 44; (with_reducible refine C10.out.mono ?_); rintro x w11 ⟨u2, ds2, rfl, ho, hl2, hr, hb⟩
                 obtain rfl := ho.eq O9.out
                 have L11 := hide (L10.out.still hb)
                 have E11 := hide (equal_any _ _ _ _ ds2 w11 hr (W10.out.below hb (Nat.le_refl _)) (by omega))
                 clear ho hr hb)
              | (go_at_call 28; (with_reducible refine E11.out.mono ?_); rintro x w12 ⟨rfl, hb⟩
                 have L12 := hide (L11.out.still hb)
                 have A12 := hide L12.out.rl.at
                 clear hb)
              | (go_at_call 45; (with_reducible refine A12.out.mono ?_); rintro x w13 ⟨rfl, hb⟩
                 have L13 := hide (L12.out.still hb)
                 clear hb))
            first
              | exact ⟨⟨n, k + 1, rfl, by go_num, by omega, by omega, L13.out⟩, by simp [intOf]; omega⟩
              | exact ⟨by ((repeat apply Exists.intro); refine ⟨?_, rfl⟩; exact ⟨n, k + 1, rfl, by go_num, by omega, by omega, L13.out⟩), by simp [intOf]; omega⟩
          · subst hcn
            have e1 : ((c : Int) == (c : Int)) = true := by simp
            have e2 : decide ((c : Int) < (c : Int)) = false := decide_eq_false (by omega)
            have RD := hide (L9.out.read (by omega) hDid.out (TT.out.below L9.out.bel TK) (by omega) (by omega) hc (BRO.out _ (getD_mem hc)))
            have hwr : IntKind.i64.wrap ((c : Int) + 1) = (c : Int) + 1 := by rw [IntKind.wrap_i64]; omega
            generalize st.rs.getD c recZ = r at f0 f1 f2 f3 f4 RD hq
            clear hq
            go_wp2_with (first
              | (go_at_call 43; (with_reducible refine RD.out.mono ?_); rintro x w10 ⟨rfl, hL10⟩
                 have L10 := hide hL10
                 have A10 := hide hL10.rl.at
                 clear hL10)
              | (go_at_call 45; (with_reducible refine A10.out.mono ?_); rintro x w13 ⟨rfl, hb⟩
                 have L13 := hide (L10.out.still hb)
                 clear hb))
            first
              | exact ⟨⟨c + 1, k + 1, by go_num, by go_num, by omega, by omega, L13.out⟩, by simp [intOf]; omega⟩
              | exact ⟨by ((repeat apply Exists.intro); refine ⟨?_, rfl⟩; exact ⟨c + 1, k + 1, by go_num, by go_num, by omega, by omega, L13.out⟩), by simp [intOf]; omega⟩
          · have e1 : ((c : Int) == (n : Int)) = false := by rw [beq_eq_false_iff_ne]; omega
            have e2 : decide ((n : Int) < (c : Int)) = true := decide_eq_true (by omega)
            have e3 : (n : Int) < (c : Int) := by omega
            have RD := hide (L9.out.order (st.rs.getD c recZ) (by omega) (by omega))
            generalize st.rs.getD c recZ = r at f0 f1 f2 f3 f4 RD hq
            clear hq
            go_wp2_with (first
              | (go_at_call 43; (with_reducible refine RD.out.mono ?_); rintro x w10 ⟨rfl, hb⟩
                 have L10 := hide (L9.out.still hb)
                 have W10 := hide (W9.out.below hb (Nat.le_refl _))
                 have TA := hide (tell_arg 10 w10 (TT.out.below L10.out.bel TK).e)
                 clear hb)
              | (go_at_call 21; (with_reducible refine TA.out.mono ?_); rintro x w14 ⟨rfl, hb⟩
                 have L14 := hide (L10.out.still hb)
                 have W14 := hide (W10.out.below hb (Nat.le_refl _))
                 have C14 := hide (L14.out.rl.cells (by omega))
                 clear hb)
              | (go_at_call 44; (with_reducible refine C14.out.mono ?_); rintro x w11 ⟨u2, ds2, rfl, ho, hl2, hr, hb⟩
                 obtain rfl := ho.eq O9.out
                 have L11 := hide (L14.out.still hb)
                 have E11 := hide (equal_any _ _ _ _ ds2 w11 hr (W14.out.below hb (Nat.le_refl _)) (by omega))
                 clear ho hr hb)
              | (go_at_call 28; (with_reducible refine E11.out.mono ?_); rintro x w12 ⟨rfl, hb⟩
                 have L12 := hide (L11.out.still hb)
                 have A12 := hide L12.out.rl.at
                 clear hb)
              | (go_at_call 45; (with_reducible refine A12.out.mono ?_); rintro x w13 ⟨rfl, hb⟩
                 have L13 := hide (L12.out.still hb)
                 clear hb))
            first
              | exact ⟨⟨n, k + 1, rfl, by go_num, by omega, by omega, L13.out⟩, by simp [intOf]; omega⟩
              | exact ⟨by ((repeat apply Exists.intro); refine ⟨?_, rfl⟩; exact ⟨n, k + 1, rfl, by go_num, by omega, by omega, L13.out⟩), by simp [intOf]; omega⟩
        · have VA := hide L.out.vault
          have LS := hide (L.out.still (Below.refl _ wr).drew)
          have FO := hide (follow_any wr.drew w3.heap.size _ n cf pf st hDid.out LS.out.bare (TT.out.below LS.out.bel TK) (by omega) hn LS.out.fd BRO.out)
          have VD := hide LS.out.vault
          have q2 : (n : Int) ≤ (cf : Int) := by omega
          have hstop : (decide ((k : Int) < (zs.length : Int)) && decide ((0 : Int) < (st.ok.length : Int))) = false := by
            rw [Bool.and_eq_false_iff, decide_eq_false_iff_not, decide_eq_false_iff_not]
            omega
          by_cases hlt : k < zs.length
          · have h0 : st.ok.length = 0 := by omega
            have d3 : (k : Int) < (zs.length : Int) := by omega
            have d4 : decide ((0 : Int) < (st.ok.length : Int)) = false := decide_eq_false (by omega)
            have d5 : ¬ (0 : Int) < (st.ok.length : Int) := by omega
            have d6 : decide ((k : Int) < (zs.length : Int)) = true := decide_eq_true d3
            clear hstop h0
            go_upto_region 31 with fail
            go_region_with (first
              | (go_at_call 20; (with_reducible refine VD.out.mono ?_); rintro x w6 ⟨rfl, hw6⟩; obtain rfl := hw6.symm)
              | (go_at_call 52; (with_reducible refine FO.out.mono ?_); rintro x w7 ⟨rb2, rfl, hR2, hb7⟩; have R7 := hide hR2; have L7 := hide (LS.out.still hb7); have C7 := hide (hR2.cells (by omega)); clear hR2 hb7))
            all_goals
              go_wp2_with (first
                | (go_at_call 44; (with_reducible refine C7.out.mono ?_); rintro x w8 ⟨u, ds, rfl, ho, hl, hr, hb⟩
                   have L8 := hide (L7.out.still hb)
                   have R8 := hide (R7.out.still hb)
                   have O8 := hide ho
                   have W8 := hide hr
                   have C8 := hide (L8.out.rl.cells (by omega))
                   clear ho hr hb)
                | (go_at_call 44; (with_reducible refine C8.out.mono ?_); rintro x w9 ⟨u2, ds2, rfl, ho, hl2, hr, hb⟩
                   obtain rfl := ho.eq O8.out
                   have L9 := hide (L8.out.still hb)
                   have R9 := hide (R8.out.still hb)
                   have E9 := hide (equal_any _ _ _ _ ds2 w9 (W8.out.below hb (Nat.le_refl _)) hr (by omega))
                   clear ho hr hb)
                | (go_at_call 28; (with_reducible refine E9.out.mono ?_); rintro x w10 ⟨rfl, hb⟩
                   have L10 := hide (L9.out.still hb)
                   have R10 := hide (R9.out.still hb)
                   have X10 := hide R10.out.lost
                   have Y10 := hide L10.out.rl.lost
                   clear hb)
                | (go_at_call 46; (with_reducible refine X10.out.mono ?_); rintro x w11 ⟨rfl, hw11⟩; obtain rfl := hw11.symm)
                | (go_at_call 46; (with_reducible refine Y10.out.mono ?_); rintro x w12 ⟨rfl, hw12⟩; obtain rfl := hw12.symm))
              go_ret
              exact ⟨rfl, L10.out.bel⟩
          · have d3 : ¬ (k : Int) < (zs.length : Int) := by omega
            have d6 : decide ((k : Int) < (zs.length : Int)) = false := decide_eq_false d3
            clear hstop
            go_upto_region 31 with fail
            go_region_with (first
              | (go_at_call 20; (with_reducible refine VD.out.mono ?_); rintro x w6 ⟨rfl, hw6⟩; obtain rfl := hw6.symm)
              | (go_at_call 52; (with_reducible refine FO.out.mono ?_); rintro x w7 ⟨rb2, rfl, hR2, hb7⟩; have R7 := hide hR2; have L7 := hide (LS.out.still hb7); have C7 := hide (hR2.cells (by omega)); clear hR2 hb7))
            all_goals
              go_wp2_with (first
                | (go_at_call 44; (with_reducible refine C7.out.mono ?_); rintro x w8 ⟨u, ds, rfl, ho, hl, hr, hb⟩
                   have L8 := hide (L7.out.still hb)
                   have R8 := hide (R7.out.still hb)
                   have O8 := hide ho
                   have W8 := hide hr
                   have C8 := hide (L8.out.rl.cells (by omega))
                   clear ho hr hb)
                | (go_at_call 44; (with_reducible refine C8.out.mono ?_); rintro x w9 ⟨u2, ds2, rfl, ho, hl2, hr, hb⟩
                   obtain rfl := ho.eq O8.out
                   have L9 := hide (L8.out.still hb)
                   have R9 := hide (R8.out.still hb)
                   have E9 := hide (equal_any _ _ _ _ ds2 w9 (W8.out.below hb (Nat.le_refl _)) hr (by omega))
                   clear ho hr hb)
                | (go_at_call 28; (with_reducible refine E9.out.mono ?_); rintro x w10 ⟨rfl, hb⟩
                   have L10 := hide (L9.out.still hb)
                   have R10 := hide (R9.out.still hb)
                   have X10 := hide R10.out.lost
                   have Y10 := hide L10.out.rl.lost
                   clear hb)
                | (go_at_call 46; (with_reducible refine X10.out.mono ?_); rintro x w11 ⟨rfl, hw11⟩; obtain rfl := hw11.symm)
                | (go_at_call 46; (with_reducible refine Y10.out.mono ?_); rintro x w12 ⟨rfl, hw12⟩; obtain rfl := hw12.symm))
              go_ret
              exact ⟨rfl, L10.out.bel⟩
end Go.Proofs.YtbmiheebhinbpaaGreatDoor

/- A fact that the laws begin with: rows. -/
namespace Go.Proofs.YtbmiheebhinbpaaGreatDoor
open Go.RowKit Go.Sort
attribute [local go_sem ↓] Go.wp_at_zero Go.wp_at_succ
set_option linter.unusedSectionVars false
variable [Inhabited Cl] [Inhabited Ev]
theorem tabV_new (w : World) : TabV (w.alloc (.cells #[.map none] 99)) w.heap.size 99 #[] none 0 tab0 := ⟨HasR.new w 99 _, fun _ => rfl, fun m e => by cases e⟩
theorem Upd.below {w w' : World} {b : Nat} {mo mo' : Option Nat} {n B : Nat} {σ : Tab} (h : Upd w w' b 99 #[] mo mo' n σ) (hB : B ≤ w.heap.size) (hL : ∀ k ∈ b :: mo.toList, B ≤ k) : Below B w w' := h.2.2.below hB hL
theorem Upd.low {w w' : World} {b : Nat} {mo mo' : Option Nat} {n B : Nat} {σ : Tab} (h : Upd w w' b 99 #[] mo mo' n σ) (hB : B ≤ w.heap.size) (hL : ∀ k ∈ b :: mo.toList, B ≤ k) : ∀ k ∈ b :: mo'.toList, B ≤ k := by
  obtain ⟨_, h2, _⟩ := h
  rcases h2 with rfl | ⟨rfl, m, rfl, hm⟩
  · exact hL
  · intro k hk
    rcases List.mem_cons.1 hk with rfl | hk
    · exact hL _ (by simp)
    · simp at hk
      omega
theorem put_apply (b : Nat) (w : World) (hV : TabV w b 99 #[] none 0 tab0) :
    Calls Tryz.prog 69 #[.pointer (some ⟨b, 0, none⟩), .agg #[.int .i64 1, .string ⟨#[97, 110, 110]⟩, .string ⟨#[116]⟩, .string ⟨#[114]⟩, .string ⟨#[118]⟩]] w fun x w' => x = .returned .nilIface ∧ ∃ mo', Upd w w' b 99 #[] none mo' 1 (app putE tab0) := by
  have h := apply_any b 99 #[] none putE 0 tab0 w put_brief (by omega) hV
  rw [put_err] at h
  exact h
theorem gone_apply (b : Nat) (mo : Option Nat) (σ : Tab) (w : World) (hV : TabV w b 99 #[] mo 1 σ) :
    Calls Tryz.prog 69 #[.pointer (some ⟨b, 0, none⟩), .agg #[.int .i64 3, .string ⟨#[97, 110, 110]⟩, .string ⟨#[]⟩, .string ⟨#[]⟩, .string ⟨#[]⟩]] w fun x w' => x = .returned .nilIface ∧ ∃ mo', Upd w w' b 99 #[] mo mo' 2 (app goneE σ) := by
  have h := apply_any b 99 #[] mo goneE 1 σ w gone_brief (by omega) hV
  rw [gone_err] at h
  exact h
theorem put_get (b : Nat) (mo : Option Nat) (w : World) (hV : TabV w b 99 #[] mo 1 (app putE tab0)) :
    Calls Tryz.prog 70 #[.pointer (some ⟨b, 0, none⟩), .string ⟨#[116]⟩, .string ⟨#[114]⟩] w fun x w' => x = .returned (.tuple #[.agg #[.string ⟨#[116]⟩, .string ⟨#[114]⟩, .string ⟨#[97, 110, 110]⟩, .string ⟨#[118]⟩], .nilIface]) ∧ Below w.heap.size w w' := by
  have h := get_any b 99 #[] mo ⟨#[116]⟩ ⟨#[114]⟩ 1 _ w (by decide) (by decide) hV
  have eg : getV (app putE tab0) ⟨#[116]⟩ ⟨#[114]⟩ = .tuple #[.agg #[.string ⟨#[116]⟩, .string ⟨#[114]⟩, .string ⟨#[97, 110, 110]⟩, .string ⟨#[118]⟩], .nilIface] := by
    unfold getV; rw [atC_some put_at, put_at]; rfl
  rw [eg] at h
  exact h
theorem none_cells (b : Nat) (mo : Option Nat) (w : World) (hV : TabV w b 99 #[] mo 2 (app goneE (app putE tab0))) :
    Calls Tryz.prog 71 #[.pointer (some ⟨b, 0, none⟩)] w fun x w' => (∃ p c, x = .returned (.slice p 0 c)) ∧ Below w.heap.size w w' := by
  refine (cells_any b 99 #[] mo 2 _ w (by omega) hV).mono ?_
  rintro x w' ⟨v, ds, rfl, ho, _, hr, hb⟩
  rw [gone_all] at ho
  obtain rfl := ho.eq inOrd0
  obtain ⟨p, c, rfl⟩ := hr.len
  exact ⟨⟨p, c, rfl⟩, hb⟩
set_option maxRecDepth 100000 in
set_option maxHeartbeats 2000000 in
theorem applied_any (w : World) : Calls Tryz.prog 25 #[] w fun x w' => x = .returned (.bool true) ∧ Below w.heap.size w w' := by
  have bel0 : Below w.heap.size w (w.alloc (.cells #[.map none] 99)) := (Below.refl _ w).alloc (Nat.le_refl _) _
  have A1 := hide (put_apply w.heap.size (w.alloc (.cells #[.map none] 99)) (tabV_new w))
  have hn := nilIface_ne
  have he := nilIface_eq
  have hc := cell_eql ⟨⟨#[116]⟩, ⟨#[114]⟩, ⟨#[97, 110, 110]⟩, ⟨#[118]⟩⟩ ⟨⟨#[116]⟩, ⟨#[114]⟩, ⟨#[97, 110, 110]⟩, ⟨#[118]⟩⟩
  rw [eqC_self] at hc
  have hg := guard42
  simp only at hc
  go_enter Tryz.func25, Tryz.ntmps25
  go_wp2_with (first
    | (go_at_call 69; (with_reducible refine A1.out.mono ?_); rintro x w1 ⟨rfl, mo1, hu1⟩
       have bel1 := hide (bel0.trans (hu1.below (by simp) (by simp)))
       have low1 := hide (hu1.low (B := w.heap.size) (by simp) (by simp))
       have hs1 := bel1.out.size
       have U1 := hide hu1
       clear hu1
       have G := hide (put_get w.heap.size mo1 w1 U1.out.1))
    | (go_at_call 70; (with_reducible refine G.out.mono ?_); rintro x w2 ⟨rfl, hb2⟩
       have hb3 : Below w1.heap.size w1 (w2.alloc (.cells #[.string ⟨#[116]⟩, .string ⟨#[114]⟩, .string ⟨#[97, 110, 110]⟩, .string ⟨#[118]⟩] 59)) := hb2.alloc hb2.size _
       have hs2 := hb2.size
       have A2 := hide (gone_apply w.heap.size mo1 _ _ (U1.out.1.below hb3))
       have B3 := hide hb3
       clear hb2 hb3)
    | (go_at_call 69; (with_reducible refine A2.out.mono ?_); rintro x w3 ⟨rfl, mo2, hu2⟩
       have U2 := hide hu2
       clear hu2
       have C := hide (none_cells w.heap.size mo2 w3 U2.out.1))
    | (go_at_call 71; (with_reducible refine C.out.mono ?_); rintro x w4 ⟨⟨p, c, rfl⟩, hb4⟩))
  go_ret
  have h3 := U2.out.below (B := w.heap.size) (by simp; omega) low1.out
  exact ⟨rfl, ((bel1.out.trans (B3.out.mono hs1)).trans h3).trans (hb4.mono (by have := h3.size; simp at this; omega))⟩
end Go.Proofs.YtbmiheebhinbpaaGreatDoor

/- Who comes late has what is left: the law's closures, and its own walk. -/
namespace Go.Proofs.YtbmiheebhinbpaaGreatDoor
open Go.RowKit Go.Sort
attribute [local go_sem ↓] Go.wp_at_zero Go.wp_at_succ
set_option linter.unusedSectionVars false
variable [Inhabited Cl] [Inhabited Ev]
set_option maxRecDepth 100000 in
set_option maxHeartbeats 1000000 in
theorem goneSub_any (bs : Nat) (s : ByteArray) (x : Ev) (W : World) (hs : W.cell? ⟨bs, 0, none⟩ = some (.string s)) :
    Calls Tryz.prog 49 #[.agg #[.int .i64 x.k, .string x.s, .string x.t, .string x.r, .string x.v], .pointer (some ⟨bs, 0, none⟩)] W fun y w' => y = .returned (.bool (goneS s x)) ∧ Below W.heap.size W w' := by
  have l1 : bs < W.heap.size := block_lt_of_cell hs
  have bel : Below W.heap.size W (W.alloc (.cells #[.int .i64 x.k, .string x.s, .string x.t, .string x.r, .string x.v] 35)) := (Below.refl _ W).alloc (Nat.le_refl _) _
  have s1 := same_bytes x.s s
  unfold goneS
  by_cases h3 : x.k = 3
  · have d1 : decide (x.k = 3) = true := decide_eq_true h3
    have d2 : (x.k == 3) = true := by simp [h3]
    rw [d1]
    generalize decide (x.s = s) = q at s1 ⊢
    clear h3
    go_enter Tryz.func49, Tryz.ntmps49
    go_wp2
    go_ret
    exact ⟨ret_val (by simp), bel⟩
  · have d1 : decide (x.k = 3) = false := decide_eq_false h3
    have d2 : (x.k == 3) = false := by simp [h3]
    rw [d1]
    clear h3
    go_enter Tryz.func49, Tryz.ntmps49
    go_wp2
    go_ret
    exact ⟨ret_val (by simp), bel⟩
set_option maxRecDepth 100000 in
set_option maxHeartbeats 1000000 in
/-- The law's own gone. -/
theorem goneIs_any (bo g cap from_ : Nat) (ok : List Ev) (s : ByteArray) (W : World) (hl : W.cell? ⟨bo, 0, none⟩ = some (.slice (some ⟨g, 0, none⟩) ok.length cap)) (hv : EvRow W (.slice (some ⟨g, 0, none⟩) ok.length cap) ok) (hc : ok.length ≤ cap) (hf : from_ ≤ ok.length) (h1000 : ok.length ≤ 1000) :
    Calls Tryz.prog 48 #[.int .i64 (from_ : Int), .string s, .pointer (some ⟨bo, 0, none⟩)] W fun y w' => y = .returned (.bool (lostB (ok.drop from_) s)) ∧ Below W.heap.size W w' := by
  have l1 : bo < W.heap.size := block_lt_of_cell hl
  have bel : Below W.heap.size W (W.alloc (.cells #[.string s] 9)) := (Below.refl _ W).alloc (Nat.le_refl _) _
  have BL := hide bel
  have i3 : (from_ : Int) ≤ (ok.length : Int) := by omega
  have hp : ∀ wx, Below (W.alloc (.cells #[.string s] 9)).heap.size (W.alloc (.cells #[.string s] 9)) wx → wx.cell? ⟨W.heap.size, 0, none⟩ = some (.string s) := fun wx hb => by
    have h0 : (W.alloc (.cells #[.string s] 9)).cell? ⟨W.heap.size, 0, none⟩ = some (.string s) := (HasR.new W 9 #[.string s]).cell 0
    exact (hb.cell (p := ⟨W.heap.size, 0, none⟩) (by show W.heap.size < _; rw [World.size_alloc]; omega)).trans h0
  by_cases hcc : from_ < cap
  · have ev := hv.tail (m := from_) hf hc
    rw [Nat.zero_add] at ev
    have CT := hide (containsEv _ (ok.drop from_) 49 #[.pointer (some ⟨W.heap.size, 0, none⟩)] (enters_of Tryz.func49 (by kernel_rfl) rfl) (goneS s) (W.alloc (.cells #[.string s] 9)) (ev.turned bel (Nat.le_refl _)) (by rw [List.length_drop]; omega) (fun wx x hB => (goneSub_any W.heap.size s x wx (hp wx hB)).mono fun _ _ ⟨he, h⟩ => ⟨he, hB.trans (h.mono hB.size)⟩))
    rw [lostB_any] at CT
    clear ev hp bel hv
    go_enter Tryz.func48, Tryz.ntmps48
    go_wp2_with (go_at_call 17; (with_reducible refine CT.out.mono ?_); rintro y w6 ⟨rfl, hb6⟩)
    go_ret
    exact ⟨rfl, BL.out.trans (hb6.mono BL.out.size)⟩
  · obtain rfl : cap = from_ := by omega
    have e0 : lostB (ok.drop cap) s = false := by rw [List.drop_eq_nil_of_le (by omega)]; rfl
    rw [e0]
    have NT := hide (fun p c fv wx => containsNone p c fv wx)
    clear hp bel hv
    go_enter Tryz.func48, Tryz.ntmps48
    go_wp2_with (go_at_call 17; (with_reducible refine (NT.out _ _ _ _).mono ?_); rintro y w6 ⟨rfl, hw6⟩; obtain rfl := hw6.symm)
    go_ret
    exact ⟨rfl, BL.out⟩
set_option maxRecDepth 100000 in
set_option maxHeartbeats 1000000 in
/-- The closure that the rows are asked by. -/
theorem goneCell_any (bg bi bo g cap k : Nat) (ok : List Ev) (c : Cl) (W : World) (hg : W.cell? ⟨bg, 0, none⟩ = some (.func (.func 48) #[] #[.pointer (some ⟨bo, 0, none⟩)])) (hi : W.cell? ⟨bi, 0, none⟩ = some (.int .i64 (k : Int))) (hl : W.cell? ⟨bo, 0, none⟩ = some (.slice (some ⟨g, 0, none⟩) ok.length cap)) (hv : EvRow W (.slice (some ⟨g, 0, none⟩) ok.length cap) ok) (hc : ok.length ≤ cap) (hf : k + 1 ≤ ok.length) (h1000 : ok.length ≤ 1000) :
    Calls Tryz.prog 50 #[.agg #[.string c.t, .string c.r, .string c.s, .string c.v], .pointer (some ⟨bg, 0, none⟩), .pointer (some ⟨bi, 0, none⟩)] W fun y w' => y = .returned (.bool (lostB (ok.drop (k + 1)) c.s)) ∧ Below W.heap.size W w' := by
  have l1 : bg < W.heap.size := block_lt_of_cell hg
  have l2 : bi < W.heap.size := block_lt_of_cell hi
  have l3 : bo < W.heap.size := block_lt_of_cell hl
  have bel : Below W.heap.size W (W.alloc (.cells #[.string c.t, .string c.r, .string c.s, .string c.v] 59)) := (Below.refl _ W).alloc (Nat.le_refl _) _
  have eg : ∀ args w, (callFunc 48 args).run Tryz.prog w = .ok (.enter 48 args) w := enters_of Tryz.func48 (by kernel_rfl) rfl
  have hwr : IntKind.i64.wrap ((k : Int) + 1) = (k : Int) + 1 := by rw [IntKind.wrap_i64]; omega
  have GF := goneIs_any bo g cap (k + 1) ok c.s (W.alloc (.cells #[.string c.t, .string c.r, .string c.s, .string c.v] 59)) ((bel.cell (p := ⟨bo, 0, none⟩) l3).trans hl) (hv.turned bel (Nat.le_refl _)) hc hf h1000
  rw [show (((k + 1 : Nat)) : Int) = (k : Int) + 1 by omega] at GF
  have CF := hide GF
  have BL := hide bel
  clear GF bel hv
  go_enter Tryz.func50, Tryz.ntmps50
  go_wp2_with (go_at_fn 48; (with_reducible refine CF.out.mono ?_); rintro y w6 ⟨rfl, hb6⟩)
  go_ret
  exact ⟨rfl, BL.out.trans (hb6.mono BL.out.size)⟩
/-- The rows of those who are not forgotten stand in order. -/
theorem InOrd.keepT {l : List Ev} {τ : Tab} {ds : List Cl} (h : InOrd τ ds) : InOrd (keepT l τ) (ds.filter fun c => !lostB l c.s) := by
  refine ⟨h.1.sublist List.filter_sublist, fun c => ?_⟩
  rw [List.mem_filter, h.2]
  cases hx : τ c.t c.r with
  | none =>
    rw [keepT_none hx]
    simp
  | some p =>
    rw [keepT_some hx]
    by_cases hl : lostB l p.1 = true
    · rw [if_pos hl]
      constructor
      · rintro ⟨a, b⟩
        injection a with a
        rw [a] at hl
        simp [hl] at b
      · intro a; cases a
    · rw [if_neg hl]
      constructor
      · rintro ⟨a, _⟩; exact a
      · intro a
        refine ⟨a, ?_⟩
        injection a with a
        rw [a] at hl
        simpa using hl
/-- What the loop has. -/
structure Lt (w5 w : World) (B rb I k : Nat) (st : Hst) (base : Nat) (vf : Value) : Prop where
  i : HasR w I 3 #[.int .i64 (k : Int)]
  rl : Rl w w5.heap.size B rb st k
  fd : w.ownsRow base 44 5 vf st.ok.length (recsL st.rs)
  bel : Below w5.heap.size w5 w
theorem Lt.still {w5 w w' : World} {B rb I k : Nat} {st : Hst} {base : Nat} {vf : Value} (h : Lt w5 w B rb I k st base vf) (b : Below w.heap.size w w') : Lt w5 w' B rb I k st base vf :=
  ⟨h.i.below b h.i.lt, h.rl.still b, ownsRow_below h.fd b, h.bel.trans (b.mono h.bel.size)⟩
/-- A record more is read; the place is as it was. -/
structure Lu (w5 w : World) (B rb I k : Nat) (st : Hst) (base : Nat) (vf : Value) : Prop where
  i : HasR w I 3 #[.int .i64 (k : Int)]
  rl : Rl w w5.heap.size B rb st (k + 1)
  fd : w.ownsRow base 44 5 vf st.ok.length (recsL st.rs)
  bel : Below w5.heap.size w5 w
theorem Lu.still {w5 w w' : World} {B rb I k : Nat} {st : Hst} {base : Nat} {vf : Value} (h : Lu w5 w B rb I k st base vf) (b : Below w.heap.size w w') : Lu w5 w' B rb I k st base vf :=
  ⟨h.i.below b h.i.lt, h.rl.still b, ownsRow_below h.fd b, h.bel.trans (b.mono h.bel.size)⟩
theorem Lt.read {w5 w : World} {B rb I k : Nat} {st : Hst} {base : Nat} {vf : Value} (h : Lt w5 w B rb I k st base vf) (hd : Did secB st) (S : ∃ mt mv v, Src B w (B + 2) (B + 1) B mt mv v st.ok.length st.ok.length secB st.σ st.τ st.rs) (T : Tabs w) (h3 : 3 < w5.heap.size) (hn : st.ok.length < 100) (hk : k < st.ok.length) (hbr : Brief (st.ok.getD k ev0)) :
    Calls Tryz.prog 43 #[.pointer (some ⟨rb, 0, none⟩), .agg #[.int .i64 ((st.rs.getD k recZ).q : Int), .string (st.rs.getD k recZ).s, .int .i64 ((st.rs.getD k recZ).g : Int), .string (st.rs.getD k recZ).p, .string (st.rs.getD k recZ).d]] w fun x w' => x = .returned .nilIface ∧ Lu w5 w' B rb I k st base vf := by
  refine (h.rl.read hd S T h3 hn hk hbr).mono ?_
  rintro x w' ⟨rfl, hR, L, hst, hL⟩
  refine ⟨rfl, h.i.turned hst (fun hm => ?_), hR, ownsRow_turned h.fd hst (fun g hg hm => ?_), h.bel.trans (hst.below h.bel.size (fun j hj => (hL j hj).1))⟩
  · have := (hL I hm).2.2 _ _ h.i
    cases this
  · obtain ⟨cur, hc⟩ := ownsRow_has h.fd hg
    have := (hL g hm).2.2 _ _ hc
    cases this
theorem Lu.fin {w5 w w' wr : World} {B rb I k : Nat} {st : Hst} {base : Nat} {vf : Value} (h : Lu w5 w B rb I k st base vf) (b : Below w.heap.size w w') (h0 : HasR wr I 3 #[.int .i64 (k : Int)]) (hk : k < st.ok.length) :
    (∃ I' k' : Nat, Value.int .i64 ((lostN st.ok (k + 1) : Nat) : Int) = .int .i64 ((lostN st.ok k' : Nat) : Int) ∧ Value.pointer (some ⟨w'.heap.size, 0, none⟩) = Value.pointer (some ⟨I', 0, none⟩) ∧ k' ≤ st.ok.length ∧ Lt w5 (w'.alloc (.cells #[.int .i64 ((k : Int) + 1)] 3)) B rb I' k' st base vf) ∧
      st.ok.length - ptrInt (.pointer (some ⟨w'.heap.size, 0, none⟩)) (w'.alloc (.cells #[.int .i64 ((k : Int) + 1)] 3)) < st.ok.length - ptrInt (.pointer (some ⟨I, 0, none⟩)) wr := by
  have s := h.still (b.alloc b.size (.cells #[.int .i64 ((k : Int) + 1)] 3))
  have hs : Lt w5 (w'.alloc (.cells #[.int .i64 ((k : Int) + 1)] 3)) B rb w'.heap.size (k + 1) st base vf := ⟨HasR.new w' 3 _, s.rl, s.fd, s.bel⟩
  refine ⟨⟨w'.heap.size, k + 1, rfl, rfl, hk, hs⟩, ?_⟩
  rw [ptrInt_of hs.i, ptrInt_of h0]
  omega
end Go.Proofs.YtbmiheebhinbpaaGreatDoor
