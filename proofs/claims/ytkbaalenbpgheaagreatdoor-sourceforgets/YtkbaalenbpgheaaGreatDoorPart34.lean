/- Texts of this proof, one behind the other. -/
import Derived.Deep.AppendLies
import Derived.Test.YtkbaalenbpgheaaGreatDoorPart33
/- The laws' own done: a source to which events happened, those that were done, and its rows behind each. -/
namespace Go.Proofs.YtkbaalenbpgheaaGreatDoor
open Go.RowKit Go.Sort
attribute [local go_sem ↓] Go.wp_at_zero Go.wp_at_succ
set_option linter.unusedSectionVars false
variable [Inhabited Cl] [Inhabited Ev]
theorem hist_few {sec : ByteArray} : ∀ (es : List Ev) (s : Hst), (hist sec es s).ok.length ≤ s.ok.length + es.length
  | [], s => by show s.ok.length ≤ s.ok.length + 0; omega
  | e :: es, s => by
    have h := hist_few (sec := sec) es (hstep sec s e)
    have h2 : (hstep sec s e).ok.length ≤ s.ok.length + 1 := by
      unfold hstep
      split
      · simp
      · omega
    show (hist sec es (hstep sec s e)).ok.length ≤ _
    simp only [List.length_cons]
    omega
theorem getD_eq! {es : List Ev} {k : Nat} (h : k < es.length) : es.getD k ev0 = es[k]! := by
  rw [getElem!_pos es k h, List.getD_eq_getElem?_getD, List.getElem?_eq_getElem h]
  rfl
theorem Dn.start {w w1 : World} (hS : Src w.heap.size w1 (w.heap.size + 2) (w.heap.size + 1) w.heap.size none none (.slice none 0 0) 0 0 secB kept0 tab0 []) (hb : w.heap.size ≤ w1.heap.size) : Dn w.heap.size (w1.alloc (.cells #[.slice none 0 0] 45)) kept0 tab0 [] 0 [] (.slice none 0 0) (.slice (some ⟨w1.heap.size, 0, none⟩) 1 1) [.slice none 0 0] := by
  refine ⟨⟨_, _, _, hS.still ((Below.refl _ w1).alloc (Nat.le_refl _) _), (fun u hu g hg => by simp at hu; subst hu; cases hg)⟩, World.ownsRow_nil _ _ _ _, ?_, (fun u hu g hg => by simp at hu; subst hu; cases hg), fun j hj => ?_⟩
  · exact World.ownsRow_lit w1 #[.slice none 0 0] 1 hb (by unfold maxLen; omega) rfl
  · have : j = 0 := by simpa using hj
    subst this
    exact ⟨[], inOrd0, Nat.zero_le _, .inl ⟨rfl, rfl⟩⟩
set_option maxRecDepth 100000 in
set_option maxHeartbeats 8000000 in
theorem done_any (v : Value) (es : List Ev) (w : World) (T : Tabs w) (hv : EvRow w v es) (h60 : es.length ≤ 60) (hbr : ∀ e ∈ es, Brief e) :
    Calls Tryz.prog 9 #[v] w fun x w' => ∃ vok vrows vals, x = .returned (.tuple #[.pointer (some ⟨w.heap.size + 2, 0, none⟩), vok, vrows]) ∧ Dn w.heap.size w' (hist secB es hst0).σ (hist secB es hst0).τ (hist secB es hst0).rs (hist secB es hst0).ok.length (hist secB es hst0).ok vok vrows vals ∧ vals.length = (hist secB es hst0).ok.length + 1 ∧ Below w.heap.size w w' := by
  have HV := hide hv
  have TK := T.k.lt
  have TT := hide T
  have BR := hide hbr
  have N := hide (srcNew_ok secB w rfl)
  obtain ⟨ao, cap, rfl⟩ := hv.slice
  have hne := nilNe
  have hps := ptrS_nil
  obtain ⟨i0, hi, hz0, hz1, hz2⟩ := info_parts info35
  obtain ⟨i1, gi, gz0, gz1, gz2⟩ := info_parts info57
  clear hv T hbr
  go_enter Tryz.func9, Tryz.ntmps9
  go_wp2_with (
    go_at_call 47; (refine N.out.mono ?_); rintro x w1 ⟨rfl, hS1, hb1⟩
    have D1 := hide (Dn.start hS1 hb1.size)
    have B1 := hide (hb1.alloc hb1.size (.cells #[.slice none 0 0] 45))
    clear hS1 hb1)
  go_loopw [7, 8, 9] (fun a b i wr => ∃ (vok vrows : Value) (k : Nat) (vals : List Value), vok = a ∧ vrows = b ∧ i = .int .i64 k ∧ k ≤ es.length ∧ Dn w.heap.size wr (hist secB (es.take k) hst0).σ (hist secB (es.take k) hst0).τ (hist secB (es.take k) hst0).rs (hist secB (es.take k) hst0).ok.length (hist secB (es.take k) hst0).ok vok vrows vals ∧ vals.length = (hist secB (es.take k) hst0).ok.length + 1 ∧ Below w.heap.size w wr) (fun _ _ i _ => es.length - (intOf i).toNat)
  case atStart => exact ⟨_, _, 0, [.slice none 0 0], rfl, rfl, rfl, Nat.zero_le _, by rw [List.take_zero]; exact D1.out, rfl, B1.out⟩
  case round =>
    clear D1 B1 N hps
    obtain ⟨vok, vrows, k, vals, rfl, rfl, rfl, hk, hD, hvl, hb⟩ := hrel
    have D := hide hD
    have BB := hide hb
    clear hD hb
    by_cases hlt : k < es.length
    · have HS := hide (hist_take (sec := secB) (s := hst0) hlt)
      rw [getD_eq! hlt] at HS
      have hfew := hist_few (sec := secB) (es.take k) hst0
      have hDid := hide (Did.hist (sec := secB) (es.take k) Did.none)
      rw [List.length_take] at hfew
      have hf0 : hst0.ok.length = 0 := rfl
      obtain ⟨b, off, rfl, hcap, hc⟩ := HV.out.spot hlt
      have hbrf : Brief es[k]! := BR.out _ (by rw [getElem!_pos es k hlt]; exact List.getElem_mem hlt)
      have HC := hide hc
      have HBR := hide hbrf
      clear hc hbrf
      generalize es[k]! = e at HC HBR HS
      generalize hist secB (es.take k) hst0 = st at D HS hfew hDid hvl
      obtain ⟨mt, mv, vv, hS, hoff⟩ := D.out.src
      have S := hide hS
      have OF := hide hoff
      have hrl := hide hDid.out.recs.1
      clear hS hoff
      obtain ⟨c0, c1, c2, c3, c4, hlb⟩ := evs_at BB.out (Nat.le_refl _) HC.out
      cases hd : doesB st.σ st.τ e
      · have D6 := hide (do_no _ _ _ _ _ _ _ _ _ _ _ _ _ _ e S.out HBR.out (by decide) (by rw [hrl.out]; omega) (by omega) (by omega) (TT.out.below BB.out TK) (by omega) hd)
        have hen := errEq
        rw [hstep_no hd] at HS
        go_wp2_with (
          go_at_call 10; (with_reducible refine D6.out.mono ?_); rintro x w7 ⟨⟨z, rfl⟩, hS7, hb7⟩
          have B7 := hide (hb7.alloc hb7.size (.cells #[.int .i64 0, .string ⟨#[]⟩, .int .i64 0, .string ⟨#[]⟩, .string ⟨#[]⟩] 30))
          clear hS7 hb7)
        exact ⟨⟨_, _, k + 1, vals, rfl, rfl, by go_num, by omega, by rw [HS.out]; exact D.out.still B7.out, by rw [HS.out]; exact hvl, BB.out.trans (B7.out.mono BB.out.size)⟩, by simp [intOf]; omega⟩
      · have D6 := hide (do_yes _ _ _ _ _ _ _ _ _ _ _ _ _ _ e S.out HBR.out (by decide) (by rw [hrl.out]; omega) (by omega) (by omega) (TT.out.below BB.out TK) (by omega) hd)
        have hen := nilEq
        rw [hstep_yes hd] at HS
        go_upto_region 11 with (
          go_at_call 10; (with_reducible refine D6.out.mono ?_); rintro x w7 ⟨Q, hQ, rfl, ⟨mt7, m7, v7, hS7, hN7⟩, hs7, hb7⟩
          have Z := (Below.refl _ w7).alloc (Nat.le_refl _) (.cells #[.int .i64 (Q.q : Int), .string Q.s, .int .i64 (Q.g : Int), .string Q.p, .string Q.d] 30)
          have D7 := hide ((Dn.do D.out S.out OF.out hS7 hN7 hs7).still Z)
          have B7 := hide ((BB.out.trans hb7).trans (Z.mono (BB.out.trans hb7).size))
          have HQ := hide hQ
          clear hQ hS7 hN7 hs7 hb7 Z)
        clear c0 c1 c2 c3 c4 hlb D6
        generalize w7.alloc (.cells #[.int .i64 (Q.q : Int), .string Q.s, .int .i64 (Q.g : Int), .string Q.p, .string Q.d] 30) = W1 at D7 B7 ⊢
        obtain ⟨c0, c1, c2, c3, c4, hlb⟩ := evs_at B7.out (Nat.le_refl _) HC.out
        have hok := D7.out.noted
        have hsz := B7.out.size
        go_upto_region 12 with (
          at_builtin; go_loud (refine wpList_append_lies _ rfl _ _ 22 rfl w.heap.size 36 i0 _ 5 72 Tryz.underlying22 hi hz0 hz1 hz2 rfl (by omega) vok st.ok.length (evsL st.ok) rfl (hok.alloc _) ⟨W1.heap.size, 0, none⟩ 1 1 (evL e) rfl rfl (World.news_of_block (cs := #[.int .i64 e.k, .string e.s, .string e.t, .string e.r, .string e.v]) (t := 36) (fr := (0, 0)) (heap_alloc_new W1 _)) (by simp [Value.oneCell', evL]) (by omega) (by unfold maxLen; omega) (by omega) (by simp; omega) (W1.heap.size + 1) (by simp) ?_); intro g3 cp3 w3 hown hgrow hat hlt3
          have hA := (Below.refl _ W1).alloc (Nat.le_refl _) (.cells #[.int .i64 e.k, .string e.s, .string e.t, .string e.r, .string e.v] 36)
          have D3 := hide (Dn.note (D7.out.still hA) hvl rfl hown hgrow (hat.imp id (fun e1 => by rw [e1]; simp)))
          have B3 := hide ((B7.out.trans (hA.mono hsz)).trans ((Stirred.of_grownO hgrow).below (B7.out.trans (hA.mono hsz)).size (fun j hj => (hok.lt j (by simpa using hj)).1)))
          clear hown hgrow hat hlt3 hA)
        clear c0 c1 c2 c3 c4 hlb D7 B7 hok hsz
        obtain ⟨mt3, mv3, v3, hS3, hoff3⟩ := D3.out.src
        have C3 := hide (srcCells_any _ w3 _ _ _ _ _ _ _ _ _ _ _ _ hS3 (by omega))
        have hrw := D3.out.rows
        have ht := hide hDid.out.tau
        clear hS3 hoff3
        go_wp2_with (first
          | (go_at_call 16; (with_reducible refine C3.out.mono ?_); rintro x w4 ⟨u, ds, rfl, ho, hl, hr, hb⟩
             obtain ⟨pu, cu, rfl⟩ := hr.slice
             have O4 := hide ho
             have R4 := hide hr
             have B4 := hide hb
             have hrw4 := ownsRow_below hrw hb
             have hs4 := hb.size
             have hs3 := B3.out.size
             clear ho hr hb)
          | (at_builtin; refine wpList_append_lies _ rfl _ _ 26 rfl w.heap.size 45 i1 _ 1 24 Tryz.underlying26 gi gz0 gz1 gz2 rfl (by omega) vrows vals.length vals rfl (hrw4.alloc _) ⟨w4.heap.size, 0, none⟩ 1 1 [.slice pu ds.length cu] rfl rfl (World.news_of_block (cs := #[.slice pu ds.length cu]) (t := 45) (fr := (0, 0)) (heap_alloc_new w4 _)) (by simp [Value.oneCell']) (by omega) (by unfold maxLen; omega) (by omega) (by simp; omega) (w4.heap.size + 1) (by simp) ?_; intro g5 cp5 w5 hown hgrow hat hlt5
             have hA := B4.out.alloc B4.out.size (.cells #[.slice pu ds.length cu] 45)
             have D5 := hide (Dn.row D3.out hA (by simp; omega) rfl (by rw [runs_snoc, ← ht.out]; exact O4.out) (by simp; omega) (R4.out.below ((Below.refl _ w4).alloc (Nat.le_refl _) _) (Nat.le_refl _)) hown hgrow (hat.imp id (fun e1 => by rw [e1]; simp)))
             have B5 := hide ((B3.out.trans (hA.mono hs3)).trans ((Stirred.of_grownO hgrow).below (B3.out.trans (hA.mono hs3)).size (fun j hj => (hrw.lt j (by simpa using hj)).1)))
             clear hown hgrow hat hlt5 hA))
        exact ⟨⟨_, _, k + 1, vals ++ [.slice pu ds.length cu], rfl, rfl, by go_num, by omega, by rw [HS.out]; simp only [List.length_append, List.length_singleton]; rw [← HQ.out]; have h5 := D5.out; rw [hvl] at h5; exact h5, by rw [HS.out]; simp; omega, B5.out⟩, by simp [intOf]; omega⟩
    · have ek : k = es.length := by omega
      subst ek
      rw [List.take_length] at D hvl
      go_wp2
      go_ret3
      exact ⟨_, _, vals, rfl, D.out, hvl, BB.out⟩
end Go.Proofs.YtkbaalenbpgheaaGreatDoor

/- The law's own fed: a run of fixed events. -/
namespace Go.Proofs.YtkbaalenbpgheaaGreatDoor
open Go.RowKit Go.Sort
attribute [local go_sem ↓] Go.wp_at_zero Go.wp_at_succ
theorem fedNew (w : World) : Calls Tryz.prog 41 #[.pointer (some ⟨w.heap.size, 0, none⟩)] (w.alloc (.cells #[.string secB, .map none] 101)) fun e w' => e = .returned (.tuple #[.pointer (some ⟨w.heap.size + 1, 0, none⟩), .nilIface]) ∧ Fd w.heap.size w' (w.heap.size + 1) w.heap.size none (.slice none 0 0) 0 secB kept0 [] ∧ Below w.heap.size w w' := by
  have F := feedNew_ok w.heap.size (w.alloc (.cells #[.string secB, .map none] 101))
  rw [World.size_alloc] at F
  refine F.mono ?_
  rintro x w' ⟨rfl, rfl⟩
  have b1 : Below w.heap.size w (w.alloc (.cells #[.string secB, .map none] 101)) := (Below.refl _ w).alloc (Nat.le_refl _) _
  have b2 := b1.alloc b1.size (.cells #[.pointer (some ⟨w.heap.size, 0, none⟩), .slice none 0 0] 126)
  have r1 := (HasR.new w 101 #[.string secB, .map none]).alloc (.cells #[.pointer (some ⟨w.heap.size, 0, none⟩), .slice none 0 0] 126)
  have r2 := HasR.new (w.alloc (.cells #[.string secB, .map none] 101)) 126 #[.pointer (some ⟨w.heap.size, 0, none⟩), .slice none 0 0]
  rw [World.size_alloc] at r2
  exact ⟨rfl, ⟨⟨r2, World.ownsRow_nil _ _ _ _⟩, ⟨r1, fun _ => rfl, (fun m e => by cases e)⟩, b2.size, by omega, Nat.le_refl _, (fun m e => by cases e), (fun g e => by cases e)⟩, b2⟩
theorem rec1 : recA T1 = #[.int .i64 1, .string ⟨#[97, 110, 110]⟩, .int .i64 1, .string ⟨#[0, 0, 0, 0, 0, 0, 0, 0, 0, 0, 0, 0, 0, 0, 0, 0]⟩, .string T1.d] := by
  unfold recA
  rw [T1_g]
  rfl
theorem head0 : headR [] = ⟨#[0, 0, 0, 0, 0, 0, 0, 0, 0, 0, 0, 0, 0, 0, 0, 0]⟩ := rfl
theorem tell1 {B : Nat} {w : World} {fb vb : Nat} (h : Fd B w fb vb none (.slice none 0 0) 0 secB kept0 []) (T : Tabs w) (hB : 3 < B) :
    Calls Tryz.prog 43 #[.pointer (some ⟨fb, 0, none⟩), .agg #[.int .i64 1, .string ⟨#[97, 110, 110]⟩, .string ⟨#[116]⟩, .string ⟨#[114]⟩, .string ⟨#[118]⟩]] w fun x w' =>
      x = .returned (.tuple #[.agg #[.int .i64 1, .string ⟨#[97, 110, 110]⟩, .int .i64 1, .string ⟨#[0, 0, 0, 0, 0, 0, 0, 0, 0, 0, 0, 0, 0, 0, 0, 0]⟩, .string T1.d], .nilIface]) ∧ (∃ m v', Fd B w' fb vb (some m) v' 1 secB K1 [T1] ∧ (∀ g, v'.ownBlock = some g → w.heap.size ≤ g ∧ g < w'.heap.size)) ∧ Stirred [fb, vb] w w' ∧ Below B w w' := by
  refine (h.tell T hB putE putR (fun e => by cases e) (by decide) (fun r hr => by simp at hr) (by decide) (by decide) (fun l => Nat.le_refl 0)).mono ?_
  rintro x w' ⟨rfl, ⟨m, v', hF, hm, hv⟩, hs, hb⟩
  refine ⟨by rw [← rec1]; rfl, ⟨m, v', hF, fun g hg => ⟨?_, ?_⟩⟩, hs, hb⟩
  · rcases hv with e | e
    · rw [hg] at e; cases e
    · exact e g hg
  · obtain ⟨cur, hc⟩ := hF.feed.block hg
    exact hc.lt
theorem tell2 {B : Nat} {w : World} {fb vb m : Nat} {v : Value} (h : Fd B w fb vb (some m) v 1 secB K1 [T1]) (T : Tabs w) (hB : 3 < B) :
    Calls Tryz.prog 43 #[.pointer (some ⟨fb, 0, none⟩), .agg #[.int .i64 3, .string ⟨#[97, 110, 110]⟩, .string ⟨#[]⟩, .string ⟨#[]⟩, .string ⟨#[]⟩]] w fun x w' =>
      (∃ (q g : Int) (s p d : ByteArray), x = .returned (.tuple #[.agg #[.int .i64 q, .string s, .int .i64 g, .string p, .string d], .nilIface])) ∧ (∃ m v', Fd B w' fb vb (some m) v' 2 secB K2 ([T1] ++ [tellR secB K1 [T1] goneE])) ∧ Stirred (fb :: vb :: (m :: v.ownBlock.toList)) w w' ∧ Below B w w' := by
  refine (h.tell T hB goneE goneR (fun _ => by decide +kernel) (by decide) (fun r hr => by simp at hr; subst hr; exact T1_fit) (by decide) (by decide) (fun l => ?_)).mono ?_
  · show (made kept0 putE.s.data.toList l).1 ≤ 1
    unfold made
    split
    · exact Nat.le_refl 1
    · exact Nat.zero_le 1
  · rintro x w' ⟨rfl, ⟨m', v', hF, _, _⟩, hs, hb⟩
    exact ⟨⟨_, _, _, _, _, rfl⟩, ⟨m', v', hF⟩, hs, hb⟩
theorem open1L {B : Nat} {w : World} {fb vb : Nat} {mv : Option Nat} {v : Value} {nv : Nat} {rs : List Rec} (h : Fd B w fb vb mv v nv secB K1 rs) (T : Tabs w) :
    Calls Tryz.prog 22 #[.pointer (some ⟨vb, 0, none⟩), .agg #[.int .i64 1, .string ⟨#[97, 110, 110]⟩, .int .i64 1, .string ⟨#[0, 0, 0, 0, 0, 0, 0, 0, 0, 0, 0, 0, 0, 0, 0, 0]⟩, .string T1.d]] w fun x w' => x = .returned (.tuple #[.agg #[.int .i64 1, .string ⟨#[97, 110, 110]⟩, .string ⟨#[116]⟩, .string ⟨#[114]⟩, .string ⟨#[118]⟩], .nilIface]) ∧ Below w.heap.size w w' := by
  have := open1 h T
  rw [← rec1]
  exact this
theorem open2L {B : Nat} {w : World} {fb vb : Nat} {mv : Option Nat} {v : Value} {nv : Nat} {rs : List Rec} (h : Fd B w fb vb mv v nv secB K2 rs) :
    Calls Tryz.prog 22 #[.pointer (some ⟨vb, 0, none⟩), .agg #[.int .i64 1, .string ⟨#[97, 110, 110]⟩, .int .i64 1, .string ⟨#[0, 0, 0, 0, 0, 0, 0, 0, 0, 0, 0, 0, 0, 0, 0, 0]⟩, .string T1.d]] w fun x w' => x = .returned (.tuple #[.agg #[.int .i64 0, .string ⟨#[]⟩, .string ⟨#[]⟩, .string ⟨#[]⟩, .string ⟨#[]⟩], .iface 56 (.int .i64 8)]) ∧ Below w.heap.size w w' := by
  have := open2 h
  rw [← rec1]
  exact this
theorem guard33 : Tryz.prog.eqGuardType Tryz.prog.depth 36 = false := by kernel_rfl
theorem evNe (w : World) : (binOp .neq 36 (.agg #[.int .i64 1, .string ⟨#[97, 110, 110]⟩, .string ⟨#[116]⟩, .string ⟨#[114]⟩, .string ⟨#[118]⟩]) (.agg #[.int .i64 1, .string ⟨#[97, 110, 110]⟩, .string ⟨#[116]⟩, .string ⟨#[114]⟩, .string ⟨#[118]⟩])).run Tryz.prog w = .ok (.bool false) w := by kernel_rfl
set_option maxRecDepth 100000 in
set_option maxHeartbeats 2000000 in
theorem fed_any (w : World) (T : Tabs w) : Calls Tryz.prog 7 #[] w fun x w' => x = .returned (.bool true) ∧ Below w.heap.size w w' := by
  have hlt := T.k.lt
  have V := hide (vaultNew_ok secB w rfl)
  have F := hide (fedNew w)
  have TA := hide T
  have hne := nilNe
  have hpv := ptrV_nil
  have hpf := ptrF_nil
  have hev := evNe
  have hgd := guard33
  clear T
  go_enter Tryz.func7, Tryz.ntmps7
  go_upto_region 8 with (first
    | (go_at_call 40; refine V.out.mono ?_; rintro x w1 ⟨rfl, rfl⟩)
    | (go_at_call 41; refine F.out.mono ?_; rintro x w2 ⟨rfl, hD, hb2⟩
       have H0 := head_any w2 _ _ _ _ hD.feed (fun r hr => by simp at hr) (by simp) (TA.out.below hb2 hlt).k
       rw [head0] at H0
       have H := hide H0
       have D2 := hide hD
       have B2 := hide hb2
       clear hD hb2 H0)
    | (go_at_call 42; (with_reducible refine H.out.mono ?_); rintro x w3 ⟨rfl, hb3⟩
       have D3 := hide (D2.out.still hb3)
       have B3 := hide (B2.out.trans (hb3.mono B2.out.size))
       clear hb3))
  have HE := hide (HasR.new w3 36 #[.int .i64 1, .string ⟨#[97, 110, 110]⟩, .string ⟨#[116]⟩, .string ⟨#[114]⟩, .string ⟨#[118]⟩])
  have b3e : Below w3.heap.size w3 (w3.alloc (.cells #[.int .i64 1, .string ⟨#[97, 110, 110]⟩, .string ⟨#[116]⟩, .string ⟨#[114]⟩, .string ⟨#[118]⟩] 36)) := (Below.refl _ w3).alloc (Nat.le_refl _) _
  have TC := hide (tell1 (D3.out.still b3e) (TA.out.below (B3.out.trans (b3e.mono B3.out.size)) hlt) hlt)
  have B3E := hide (B3.out.trans (b3e.mono B3.out.size))
  have hfb := D3.out.feed.row.lt
  have hvb := D3.out.keys.row.lt
  have hD := T1_size
  clear V F H D2 B2 b3e
  go_wp2_with (first
    | (go_at_call 43; (with_reducible refine TC.out.mono ?_); rintro x w4 ⟨rfl, ⟨m, v', hF, hg⟩, hs, hb⟩
       have S4 := hide hF; have G4 := hide hg; have B4 := hide (B3E.out.trans hb)
       have H4 := hide (HE.out.turned hs (by simp; omega))
       have h40 : w4.cell? ⟨w3.heap.size, 0, none⟩ = some (.int .i64 1) := H4.out.cell 0
       have h41 : w4.cell? ⟨w3.heap.size, 1, none⟩ = some (.string ⟨#[97, 110, 110]⟩) := H4.out.cell 1
       have h42 : w4.cell? ⟨w3.heap.size, 2, none⟩ = some (.string ⟨#[116]⟩) := H4.out.cell 2
       have h43 : w4.cell? ⟨w3.heap.size, 3, none⟩ = some (.string ⟨#[114]⟩) := H4.out.cell 3
       have h44 : w4.cell? ⟨w3.heap.size, 4, none⟩ = some (.string ⟨#[118]⟩) := H4.out.cell 4
       have hlt4 := H4.out.lt
       have b4 : Below w4.heap.size w4 (w4.alloc (.cells #[.int .i64 1, .string ⟨#[97, 110, 110]⟩, .int .i64 1, .string ⟨#[0, 0, 0, 0, 0, 0, 0, 0, 0, 0, 0, 0, 0, 0, 0, 0]⟩, .string T1.d] 30)) := (Below.refl _ w4).alloc (Nat.le_refl _) _
       have S4a := hide (hF.still b4)
       have B4a := hide (B4.out.trans (b4.mono B4.out.size))
       have O1 := hide (open1L S4a.out (TA.out.below B4a.out hlt))
       have RR := hide (HasR.new w4 30 #[.int .i64 1, .string ⟨#[97, 110, 110]⟩, .int .i64 1, .string ⟨#[0, 0, 0, 0, 0, 0, 0, 0, 0, 0, 0, 0, 0, 0, 0, 0]⟩, .string T1.d])
       have EE := hide (H4.out.below b4 hlt4)
       clear b4
       clear hF hg hs hb)
    | (go_at_call 22; (with_reducible refine O1.out.mono ?_); rintro x w5 ⟨rfl, hb5⟩
       have S5 := hide (S4a.out.still hb5)
       have B5 := hide (B4a.out.trans (hb5.mono B4a.out.size))
       have H5 := hide (EE.out.below hb5 EE.out.lt)
       have R5 := hide (RR.out.below hb5 RR.out.lt)
       have e50 : w5.cell? ⟨w3.heap.size, 0, none⟩ = some (.int .i64 1) := H5.out.cell 0
       have e51 : w5.cell? ⟨w3.heap.size, 1, none⟩ = some (.string ⟨#[97, 110, 110]⟩) := H5.out.cell 1
       have e52 : w5.cell? ⟨w3.heap.size, 2, none⟩ = some (.string ⟨#[116]⟩) := H5.out.cell 2
       have e53 : w5.cell? ⟨w3.heap.size, 3, none⟩ = some (.string ⟨#[114]⟩) := H5.out.cell 3
       have e54 : w5.cell? ⟨w3.heap.size, 4, none⟩ = some (.string ⟨#[118]⟩) := H5.out.cell 4
       have r50 : w5.cell? ⟨w4.heap.size, 0, none⟩ = some (.int .i64 1) := R5.out.cell 0
       have r51 : w5.cell? ⟨w4.heap.size, 1, none⟩ = some (.string ⟨#[97, 110, 110]⟩) := R5.out.cell 1
       have r52 : w5.cell? ⟨w4.heap.size, 2, none⟩ = some (.int .i64 1) := R5.out.cell 2
       have r53 : w5.cell? ⟨w4.heap.size, 3, none⟩ = some (.string ⟨#[0, 0, 0, 0, 0, 0, 0, 0, 0, 0, 0, 0, 0, 0, 0, 0]⟩) := R5.out.cell 3
       have r54 : w5.cell? ⟨w4.heap.size, 4, none⟩ = some (.string T1.d) := R5.out.cell 4
       have hlt5 := H5.out.lt
       have hlr5 := R5.out.lt
       have b5 : Below w5.heap.size w5 (w5.alloc (.cells #[.int .i64 1, .string ⟨#[97, 110, 110]⟩, .string ⟨#[116]⟩, .string ⟨#[114]⟩, .string ⟨#[118]⟩] 36)) := (Below.refl _ w5).alloc (Nat.le_refl _) _
       have S5a := hide (S5.out.still b5)
       have B5a := hide (B5.out.trans (b5.mono B5.out.size))
       have T2 := hide (tell2 S5a.out (TA.out.below B5a.out hlt) hlt)
       have R5a := hide (R5.out.below b5 hlr5)
       clear hb5 b5)
    | (go_at_call 43; (with_reducible refine T2.out.mono ?_); rintro x w6 ⟨⟨q, g, s, p, d, rfl⟩, ⟨m6, v6, hF6⟩, hs6, hb6⟩
       have R6 := hide (R5a.out.turned hs6 (fun hmem => by
         rcases List.mem_cons.1 hmem with e1 | hmem
         · omega
         · rcases List.mem_cons.1 hmem with e1 | hmem
           · omega
           · rcases List.mem_cons.1 hmem with e1 | hmem
             · obtain ⟨Dm, ho, _⟩ := S5a.out.keys.held m rfl
               exact R5a.out.noMap ho e1
             · have := G4.out _ (by simpa using hmem)
               omega))
       have S6 := hide hF6
       have B6 := hide (B5a.out.trans hb6)
       have r60 : w6.cell? ⟨w4.heap.size, 0, none⟩ = some (.int .i64 1) := R6.out.cell 0
       have r61 : w6.cell? ⟨w4.heap.size, 1, none⟩ = some (.string ⟨#[97, 110, 110]⟩) := R6.out.cell 1
       have r62 : w6.cell? ⟨w4.heap.size, 2, none⟩ = some (.int .i64 1) := R6.out.cell 2
       have r63 : w6.cell? ⟨w4.heap.size, 3, none⟩ = some (.string ⟨#[0, 0, 0, 0, 0, 0, 0, 0, 0, 0, 0, 0, 0, 0, 0, 0]⟩) := R6.out.cell 3
       have r64 : w6.cell? ⟨w4.heap.size, 4, none⟩ = some (.string T1.d) := R6.out.cell 4
       have hlr6 := R6.out.lt
       have b6 : Below w6.heap.size w6 (w6.alloc (.cells #[.int .i64 q, .string s, .int .i64 g, .string p, .string d] 30)) := (Below.refl _ w6).alloc (Nat.le_refl _) _
       have O2 := hide (open2L (hF6.still b6))
       have B6a := hide (B6.out.trans (b6.mono B6.out.size))
       clear hs6 hF6 hb6 b6)
    | (go_at_call 22; (with_reducible refine O2.out.mono ?_); rintro x w7 ⟨rfl, hb7⟩
       have B7 := hide (B6a.out.trans (hb7.mono B6a.out.size))
       have A7 := hide (tell_arg 8 w7 (TA.out.below B7.out hlt).e)
       clear hb7)
    | (go_at_call 23; (with_reducible refine A7.out.mono ?_); rintro x w8 ⟨rfl, hb8⟩))
  go_ret
  exact ⟨rfl, B7.out.trans (hb8.mono B7.out.size)⟩
end Go.Proofs.YtkbaalenbpgheaaGreatDoor

/- Are records one behind the other? The program's Whole, of records that are. -/
namespace Go.Proofs.YtkbaalenbpgheaaGreatDoor
open Go.RowKit
attribute [local go_sem ↓] Go.wp_at_zero Go.wp_at_succ
theorem HasR.one {w : World} {b : Nat} {t : TypeId} {a0 : Value} (h : HasR w b t #[a0]) (v0 : Value) : HasR (w.setCell ⟨b, 0, none⟩ v0) b t #[v0] := h.set 0 v0
end Go.Proofs.YtkbaalenbpgheaaGreatDoor
