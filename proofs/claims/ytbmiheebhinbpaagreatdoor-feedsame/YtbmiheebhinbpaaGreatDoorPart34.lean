/- For every two lists of events: two sources of one secret to which the same happens tell the same records, what is told more does not change what was told, and a record's body is as long as what it says, and a mark: FeedSame returns true, and each list reads behind the call as it did before. The library's type of errors, the tables of the sum and of the kinds, and the library's two tables of runes start as their texts lay them (the card ties that). -/
import Derived.Test.YtbmiheebhinbpaaGreatDoorPart33
/- Told again it is the same: the law's own walk. -/
namespace Go.Proofs.YtbmiheebhinbpaaGreatDoor
open Go.RowKit Go.Sort
attribute [local go_sem ↓] Go.wp_at_zero Go.wp_at_succ
set_option linter.unusedSectionVars false
variable [Inhabited Cl] [Inhabited Ev]
/-- What the loop has. -/
structure Sm (w0 w : World) (B base n : Nat) (ok : List Ev) (rs : List Rec) (vok va : Value) : Prop where
  done : w.ownsRow B 35 5 vok n (evsL ok)
  fd : w.ownsRow base 44 5 va n (recsL rs)
  bel : Below w0.heap.size w0 w
theorem Sm.still {w0 w w' : World} {B base n : Nat} {ok : List Ev} {rs : List Rec} {vok va : Value} (h : Sm w0 w B base n ok rs vok va) (b : Below w.heap.size w w') : Sm w0 w' B base n ok rs vok va :=
  ⟨ownsRow_below h.done b, ownsRow_below h.fd b, h.bel.trans (b.mono h.bel.size)⟩
set_option maxRecDepth 100000 in
set_option maxHeartbeats 8000000 in
theorem same_any (v : Value) (es : List Ev) (vm : Value) (ms : List Ev) (w : World) (T : Tabs w) (hv : EvRow w v es) (hvm : EvRow w vm ms) :
    Calls Tryz.prog 4 #[v, vm] w fun x w' => x = .returned (.bool true) ∧ Below w.heap.size w w' := by
  have F := hide (few_any v es w hv)
  have TK := T.k.lt
  have TT := hide T
  have HV := hide hv
  have HM := hide hvm
  obtain ⟨ao, cap, rfl⟩ := hv.slice
  obtain ⟨am, cam, rfl⟩ := hvm.slice
  clear hv T hvm
  cases hf : fewB es
  · rw [hf] at F
    go_enter Tryz.func4, Tryz.ntmps4
    go_wp2_with (go_at_call 12; (with_reducible refine F.out.mono ?_); rintro x w1 ⟨rfl, hb1⟩)
    go_ret
    exact ⟨rfl, hb1⟩
  · rw [hf] at F
    obtain ⟨h30, hbr⟩ := few_brief hf
    have BR := hide hbr
    clear hf hbr
    have F1 := hide (fun wx (hb : Below w.heap.size w wx) => few_any (.slice am ms.length cam) ms wx (HM.out.turned hb (Nat.le_refl _)))
    cases hg : fewB ms
    · rw [hg] at F1
      go_enter Tryz.func4, Tryz.ntmps4
      go_wp2_with (first
        | (go_at_call 12; (with_reducible refine F.out.mono ?_); rintro x w1 ⟨rfl, hb1⟩; have B1 := hide hb1; clear hb1 F)
        | (go_at_call 12; (with_reducible refine (F1.out _ B1.out).mono ?_); rintro x w2 ⟨rfl, hb2⟩))
      go_ret
      exact ⟨rfl, B1.out.trans (hb2.mono B1.out.size)⟩
    · rw [hg] at F1
      obtain ⟨m30, mbr⟩ := few_brief hg
      have MR := hide mbr
      clear hg mbr
      have hps := ptrS_nil
      have hne := nilNe
      have hDid := hide (Did.hist (sec := secB) es Did.none)
      have hfew := hist_few (sec := secB) es hst0
      have hf0 : hst0.ok.length = 0 := rfl
      have DA := hide (fun wx (hb : Below w.heap.size w wx) => done_any (.slice ao es.length cap) es wx (TT.out.below hb TK) (HV.out.turned hb (Nat.le_refl _)) (by omega) BR.out)
      have DB := hide (fun wx vx (hb : Below w.heap.size w wx) (hx : EvRow wx vx (es ++ ms)) => done_any vx (es ++ ms) wx (TT.out.below hb TK) hx (by rw [List.length_append]; omega) (fun e he => by rcases List.mem_append.1 he with h | h; (exact BR.out e h); (exact MR.out e h)))
      have hfw2 := hist_few (sec := secB) (es ++ ms) hst0
      have hDid2 := hide (Did.hist (sec := secB) (es ++ ms) Did.none)
      obtain ⟨mo, mr, hmo, hmr⟩ := hist_more (sec := secB) ms (hist secB es hst0)
      rw [← hist_append] at hmo hmr
      have HMO := hide hmo
      have HMR := hide hmr
      clear hmo hmr
      generalize hist secB (es ++ ms) hst0 = st2 at DB hfw2 hDid2 HMO HMR
      generalize hist secB es hst0 = st at hDid hfew DA HMO HMR
      have hok : st.ok.length ≤ 30 := by omega
      have hok2 : st2.ok.length ≤ 60 := by rw [List.length_append] at hfw2; omega
      have HRL := hide hDid.out.recs.1
      have HRL2 := hide hDid2.out.recs.1
      have hle : st.ok.length ≤ st2.ok.length := by rw [HMO.out, List.length_append]; omega
      clear hfew hf0 hfw2
      go_enter Tryz.func4, Tryz.ntmps4
      go_wp2_with (first
        | (go_at_call 12; (with_reducible refine F.out.mono ?_); rintro x w1 ⟨rfl, hb1⟩
           have B1 := hide hb1
           clear hb1 F)
        | (go_at_call 12; (with_reducible refine (F1.out _ B1.out).mono ?_); rintro x w2 ⟨rfl, hb2⟩
           have B2 := hide (B1.out.trans (hb2.mono B1.out.size))
           have F2 := hide (fed_any w2 (TT.out.below B2.out TK))
           clear hb2 F1)
        | (go_at_call 13; (with_reducible refine F2.out.mono ?_); rintro x w3 ⟨rfl, hb3⟩
           have B3 := hide (B2.out.trans (hb3.mono B2.out.size))
           clear hb3 F2)
        | (go_at_call 14; (with_reducible refine (DA.out _ B3.out).mono ?_); rintro x w4 ⟨vok, vrows, vals, rfl, hD, hvl, hb4⟩
           have B4 := hide (B3.out.trans (hb4.mono B3.out.size))
           have D4 := hide hD
           have CL := hide (cloneE_any (.slice ao es.length cap) es w4 (HV.out.turned B4.out (Nat.le_refl _)) (by omega))
           clear hD hb4 hvl DA)
        | (go_at_call 22; (with_reducible refine CL.out.mono ?_); rintro x w5 ⟨u, rfl, hu, hb5⟩
           have B5 := hide (B4.out.trans (hb5.mono B4.out.size))
           have X45 := hide hb5
           have U5 := hide hu
           have hs4 := B4.out.size
           have hs5 := hb5.size
           clear hu hb5)
        | (at_builtin; refine app_evs rfl _ _ rfl w4.heap.size u es.length (evsL es) rfl U5.out (.slice am ms.length cam) ms rfl (HM.out.turned B5.out (Nat.le_refl _)) (by omega) hs5 ?_; intro u6 w6 hown hgrow
           have t6 := (Stirred.of_grownO hgrow)
           have bb6 := t6.below (B := w4.heap.size) hs5 (fun j hj => (U5.out.lt j (by simpa using hj)).1)
           have B6 := hide (B5.out.trans (bb6.mono hs4))
           have D6 := hide (D4.out.still ((X45.out).trans bb6))
           have E6 := hide (evRow_of (es := es ++ ms) (by rw [evsL_app, List.length_append]; exact hown))
           clear hown hgrow t6 bb6)
        | (go_at_call 14; (with_reducible refine (DB.out _ _ B6.out E6.out).mono ?_); rintro x w7 ⟨vok2, vrows2, vals2, rfl, hD7, hvl7, hb7⟩
           have B7 := hide (B6.out.trans (hb7.mono B6.out.size))
           have D7 := hide (D6.out.still hb7)
           obtain ⟨mt, mv, vv, hS, _⟩ := D7.out.src
           have FE := hide (srcFeed_any _ _ _ _ _ _ _ _ _ _ _ _ _ _ hS (by rw [HRL.out]; omega))
           have E7 := hide hD7
           clear hD7 hvl7 hb7 hS)
        | (go_at_call 15; (with_reducible refine FE.out.mono ?_); rintro x w8 ⟨va, rfl, hr8, hb8⟩
           rw [HRL.out] at hr8
           have B8 := hide (B7.out.trans (hb8.mono B7.out.size))
           have D8 := hide (D7.out.still hb8)
           have R8 := hide hr8
           obtain ⟨mt2, mv2, vv2, hS2, _⟩ := (E7.out.still hb8).src
           have FE2 := hide (srcFeed_any _ _ _ _ _ _ _ _ _ _ _ _ _ _ hS2 (by rw [HRL2.out]; omega))
           obtain ⟨pa, ca, rfl⟩ := ownsRow_slice hr8
           clear hr8 hb8 hS2 FE)
        | (go_at_call 15; (with_reducible refine FE2.out.mono ?_); rintro x w9 ⟨vb, rfl, hr9, hb9⟩
           rw [HRL2.out] at hr9
           have B9 := hide (B8.out.trans (hb9.mono B8.out.size))
           have L9 := hide (Sm.mk (w0 := w) (D8.out.still hb9).noted (ownsRow_below R8.out hb9) B9.out)
           obtain ⟨pb, cb, rfl⟩ := ownsRow_slice hr9
           have hcb : st2.ok.length ≤ cb := by
             rcases hr9.2 with ⟨e1, e0⟩ | ⟨g, cap', cur, e1, _, _, a1, _⟩
             · omega
             · simp only [Value.slice.injEq] at e1
               rw [e1.2.2]; exact a1
           have hr9b := hr9
           rw [HMR.out] at hr9b
           have EQ := hide (equalR_any pa pb ca cb st.ok.length st2.ok.length st.rs mr _ _ w9 HRL.out L9.out.fd hr9b (by omega))
           have q1 : ¬ (st2.ok.length : Int) < (st.ok.length : Int) := by omega
           have q2 : (st.ok.length : Int) ≤ (cb : Int) := by omega
           have q4 : decide (st2.ok.length < st.ok.length) = false := by simp; omega
           have q3 : decide ((st2.ok.length : Int) < (st.ok.length : Int)) = false := by simp; omega
           clear hr9 hb9 hr9b FE2)
        | (go_at_call 23; (with_reducible refine EQ.out.mono ?_); rintro x w10 ⟨rfl, hb10⟩
           have L10 := hide (L9.out.still hb10)
           clear hb10))
      obtain ⟨po, co, hpo⟩ := ownsRow_slice L10.out.done
      clear D4 D7 D8 E7 E6 B1 B2 B3 B4 B5 B6 B7 B8 B9 L9 R8 U5 X45 CL DB D6 EQ
      go_loopw [13] (fun i wr => ∃ k : Nat, i = .int .i64 k ∧ k ≤ st.ok.length ∧ Sm w wr _ _ st.ok.length st.ok st.rs vok (.slice pa st.ok.length ca)) (fun i _ => st.ok.length - (intOf i).toNat)
      case atStart => exact ⟨0, rfl, Nat.zero_le _, L10.out⟩
      case round =>
        clear L10
        obtain ⟨k, rfl, hk, hI⟩ := hrel
        have L := hide hI
        clear hI
        subst hpo
        by_cases hlt : k < st.ok.length
        · obtain ⟨hRO, _, _⟩ := hDid.out.recs.2 k hlt
          have HSZ := hide hRO.size
          have hrt := hRO.right
          obtain ⟨go, rfl, _⟩ := block_of L.out.done (by omega)
          obtain ⟨ga, rfl, _⟩ := block_of L.out.fd (by omega)
          obtain ⟨o0, o1, o2, o3, o4, hgo⟩ := evs_c L.out.done hlt
          have FC := hide (fun (wx : World) (b : Nat) (h : wx.ownsRow b 44 5 (.slice (some ⟨ga, 0, none⟩) st.ok.length ca) st.ok.length (recsL st.rs)) => recs_c h HRL.out hlt)
          have OC := hide (fun (wx : World) (b : Nat) (h : wx.ownsRow b 35 5 (.slice (some ⟨go, 0, none⟩) st.ok.length co) st.ok.length (evsL st.ok)) => evs_c h hlt)
          have i1 : (k : Int) < (st.ok.length : Int) := by omega
          generalize st.ok.getD k ev0 = e at HSZ hrt o0 o1 o2 o3 o4 hRO OC
          generalize st.rs.getD k recZ = r at HSZ FC hRO
          have tsz := text_size hrt
          have PR := hide (print_ok e.k e.s e.t e.r e.v wr hrt (TT.out.below L.out.bel TK).l)
          rw [show (⟨e.k, e.s, e.t, e.r, e.v⟩ : Ev) = e from rfl] at PR
          generalize textB e = tx at HSZ tsz PR
          clear hRO hrt
          by_cases hk3 : e.k = 3
          · have d2 : (e.k != 3) = false := by simp [bne, hk3]
            have hz : (r.d.size : Int) = (tx.size : Int) := by rw [HSZ.out, if_pos hk3]; omega
            clear hk3
            go_wp2_with (
              go_at_call 24; (with_reducible refine PR.out.mono ?_); rintro x w11 ⟨rfl, hb⟩
              have L11 := hide (L.out.still hb)
              obtain ⟨f0, f1, f2, f3, f4, hgf⟩ := FC.out _ _ L11.out.fd
              obtain ⟨y0, y1, y2, y3, y4, hgy⟩ := OC.out _ _ L11.out.done
              clear hb)
            first
              | exact ⟨⟨k + 1, by go_num, by omega, L11.out⟩, by simp [intOf]; omega⟩
              | exact ⟨by ((repeat apply Exists.intro); refine ⟨?_, rfl⟩; exact ⟨k + 1, by go_num, by omega, L11.out⟩), by simp [intOf]; omega⟩
          · have d2 : (e.k != 3) = true := by simp [bne, hk3]
            have hz : (r.d.size : Int) = (tx.size : Int) + 16 := by rw [HSZ.out, if_neg hk3]; omega
            clear hk3
            go_wp2_with (
              go_at_call 24; (with_reducible refine PR.out.mono ?_); rintro x w11 ⟨rfl, hb⟩
              have L11 := hide (L.out.still hb)
              obtain ⟨f0, f1, f2, f3, f4, hgf⟩ := FC.out _ _ L11.out.fd
              obtain ⟨y0, y1, y2, y3, y4, hgy⟩ := OC.out _ _ L11.out.done
              clear hb)
            first
              | exact ⟨⟨k + 1, by go_num, by omega, L11.out⟩, by simp [intOf]; omega⟩
              | exact ⟨by ((repeat apply Exists.intro); refine ⟨?_, rfl⟩; exact ⟨k + 1, by go_num, by omega, L11.out⟩), by simp [intOf]; omega⟩
        · go_wp2
          go_ret
          exact ⟨rfl, L.out.bel⟩
end Go.Proofs.YtbmiheebhinbpaaGreatDoor

namespace Go.Proofs.YtbmiheebhinbpaaGreatDoor
open Go.ChangeShapes Go.WideShapes Go.ChangeAt Go.RowKit
open Go.ChangeMaps (open_string shut_string)
set_option maxRecDepth 100000 in
theorem feedSame_lifted (os : Os) (started : os.Started) (H : Type) (enc : TypeId × Value → H) :
    ReturnsInHanded {} Tryz.checked os 4 .any (fun w args => (Rows.feedSameSpec.pre enc Tryz.prog Tryz.f4 [] false w args ∧ laidMetH Tryz.prog Rows.feedSameRow.laid w) ∧ sizedMet enc Tryz.prog Tryz.f4 (OpenSpec.ofChange Rows.feedSameSpec) false w args)
      (Rows.feedSameSpec.post enc Tryz.prog Tryz.f4 false true false false) := by
  refine returns_listed started (by kernel_rfl) Tryz.func4
    (ChangeSpec.witness_shaped (enc := enc) (C := Tryz.checked) (os := os) (X := fun w _ => laidMetH Tryz.prog Rows.feedSameRow.laid w) false (((World.holding Tryz.prog os ⟨#[], #[], []⟩).setCell ⟨1, 0, none⟩ (.iface 187 (.agg #[.pointer (some ⟨6, 38, none⟩)]))).layVars Tryz.prog dataL) #[.slice none 0 0, .slice none 0 0] 8 (World.layVars_os _ _ _)
      (World.shaped_of_ZipB (by kernel_rfl) (by kernel_rfl)) (by kernel_rfl) (by kernel_rfl) (by kernel_rfl)
      (laidMetH_of_parts (show laidMet Tryz.prog dataL _ from laidMet_on (w0 := (World.holding Tryz.prog os ⟨#[], #[], []⟩).setCell ⟨1, 0, none⟩ (.iface 187 (.agg #[.pointer (some ⟨6, 38, none⟩)]))) (by simp [World.memory, World.forCall, Input.heap]) (by kernel_rfl) (by kernel_rfl)) (by kernel_rfl))) ?_
  intro W base args ds gs before hval0 hW hsh hL
  have hval : ∀ (j : Nat) t v, Tryz.f4.params[j]? = some t → args[j]? = some v → Value.okWide Tryz.prog W .any base t v := hval0
  have hW' := hW
  obtain ⟨p, q, hA0, hV, rfl, hfz, hnd⟩ := hW
  have hA : DataW.TrodAll enc Tryz.prog W 0 (fun _ => true) true Tryz.f4.params.toList args.toList ds p := hA0
  rw [Tryz.params4] at hA hval
  obtain ⟨v0, vs0, d0, ds0, p0, q0, hargs, rfl, rfl, h0, r0⟩ := trodAll_cons hA
  obtain ⟨v1, vs1, d1, ds1, p1, q1, rfl, rfl, rfl, h1, r1⟩ := trodAll_cons r0
  obtain ⟨rfl, rfl, rfl⟩ := trodAll_nil r1
  obtain rfl : args = #[v0, v1] := by cases args; simp_all
  obtain ⟨rfl, rfl⟩ := trodVars_none hV
  letI : Inhabited Cl := ⟨cl0⟩
  letI : Inhabited Ev := ⟨ev0⟩
  obtain ⟨a0, len0, cap0, rfl⟩ := okWide_slice Tryz.underlying22 (hval 0 22 v0 rfl rfl)
  have k0 := h0
  have lt0 : ∀ x ∈ p0, x.block < W.heap.size := by obtain ⟨m, hm⟩ := k0; exact DataW.trod_lt m _ _ _ hm
  obtain ⟨es0, e0⟩ := evs_of h0
  obtain ⟨a1, len1, cap1, rfl⟩ := okWide_slice Tryz.underlying22 (hval 1 22 v1 rfl rfl)
  have k1 := h1
  have lt1 : ∀ x ∈ p1, x.block < W.heap.size := by obtain ⟨m, hm⟩ := k1; exact DataW.trod_lt m _ _ _ hm
  obtain ⟨es1, e1⟩ := evs_of h1
  clear hA0 hval0
  simp only [List.append_nil] at hW'
  refine (same_any _ es0 _ es1 W (tabs_of hsh hL) e0 e1).mono fun x W' ⟨he, bel⟩ => ?_
  subst he
  exact ⟨_, rfl, _, _, _, [], _, [], hW', trodAll_mk1 (shut_bool Tryz.underlying4 _), (trodAll_cons_mk (Below.trod laidOut (by kernel_rfl) (of_decide_eq_true (by kernel_rfl)) k0 bel lt0) (trodAll_cons_mk (Below.trod laidOut (by kernel_rfl) (of_decide_eq_true (by kernel_rfl)) k1 bel lt1) (trodAll_mk0))), rfl, bel.frame _, fun h => by cases h⟩
theorem feedSame_row_holds : Rows.FeedSameSaid :=
  OpenClaim.holds_of_wide 4 Tryz.f4 rfl rfl rfl rfl rfl rfl rfl ⟨rfl, rfl, rfl, rfl, rfl⟩ rfl rfl rfl rfl rfl (by kernel_rfl) Tryz.func4 (by kernel_rfl)
    (of_decide_eq_true (by kernel_rfl)) (by unfold Func.isWrapper; first | (rw [if_pos (by decide +kernel)]; kernel_rfl) | (rw [if_neg (by decide +kernel)]; exact ⟨rfl, rfl⟩))
    (fun os started H enc _ => feedSame_lifted os started H enc)
theorem feedSame_holds : Rows.FeedSameCardSaid :=
  Claim7.holds_tied_plain_at .later [] [.data, .handle, .data, .data, .pinned] true (true, "8a85a5eee98c237e46004362c2271095f71e0d7e58ceece59f9257a0176131be") true
    feedSame_row_holds (fun _ h => by cases h) (by kernel_rfl) (fun _ h => by cases h) feedSame_row_tie rfl ⟨rfl, rfl⟩ (by kernel_rfl) rfl
    (fun f fn hf hfn => by
      obtain rfl : f = 4 := Option.some.inj ((show Tryz.prog.funcNamed Rows.feedSameRow.func = some 4 by kernel_rfl).symm.trans hf) |>.symm
      obtain rfl : fn = Tryz.f4 := (Option.some.inj (Tryz.func4.symm.trans hfn)).symm
      exact ⟨by kernel_rfl, fun j t ht => by
        rw [Tryz.params4] at ht
        have hm : t ∈ [22, 22] := by simpa using Array.mem_of_getElem? ht
        have hall : ([22, 22].all fun u => !Tryz.prog.wantsStandIn u) = true := by kernel_rfl
        exact (show Tryz.prog.wantsStandIn t = false by simpa using List.all_eq_true.1 hall t hm)⟩)
    (by kernel_rfl)
end Go.Proofs.YtbmiheebhinbpaaGreatDoor
