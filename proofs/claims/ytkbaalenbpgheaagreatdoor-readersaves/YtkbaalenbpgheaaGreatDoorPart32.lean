/- Texts of this proof, one behind the other. -/
import Derived.Deep.AppendLies
import Derived.Test.YtkbaalenbpgheaaGreatDoorPart31
/- The rows of those who are not forgotten, as mathematics: what a late reader has, and who tells it on. -/
namespace Go.Proofs.YtkbaalenbpgheaaGreatDoor
open Go.RowKit Go.Sort
/-- The rows of those alone that are not forgotten. -/
def keepT (l : List Ev) (τ : Tab) : Tab := fun t r =>
  match τ t r with
  | some p => if lostB l p.1 = true then none else some p
  | none => none
theorem keepT_none {l : List Ev} {τ : Tab} {t r : ByteArray} (h : τ t r = none) : keepT l τ t r = none := by unfold keepT; rw [h]
theorem keepT_some {l : List Ev} {τ : Tab} {t r : ByteArray} {p : ByteArray × ByteArray} (h : τ t r = some p) : keepT l τ t r = if lostB l p.1 = true then none else some p := by unfold keepT; rw [h]
theorem keepT_nil (τ : Tab) : keepT [] τ = τ := by
  funext t r
  cases h : τ t r with
  | none => exact keepT_none h
  | some p => rw [keepT_some h]; rfl
theorem keepT_tab0 (l : List Ev) : keepT l tab0 = tab0 := rfl
theorem lostB_cons (e : Ev) (l : List Ev) (s : ByteArray) : lostB (e :: l) s = ((decide (e.k = 3) && decide (e.s = s)) || lostB l s) := rfl
/-- What a late reader has behind an event that was done. -/
theorem late_step {e : Ev} {l : List Ev} {τ : Tab} (hr : rightB e = true) (h0 : refuseB τ e = 0) :
    keepT l (app e τ) = if e.k ≠ 3 ∧ lostB l e.s = true then keepT (e :: l) τ else app e (keepT (e :: l) τ) := by
  funext t r
  rw [app_right hr, app_right hr]
  rcases right_kind hr with hk | hk | hk
  · have h3 : e.k ≠ 3 := by omega
    have hlc : ∀ s, lostB (e :: l) s = lostB l s := fun s => by rw [lostB_cons]; simp [h3]
    have hown : ∀ p, τ e.t e.r = some p → p.1 = e.s := fun p hp => by
      unfold refuseB at h0
      rw [hp] at h0
      simp only [hk, ownB] at h0
      by_cases hq : p.1 = e.s
      · exact hq
      · simp [hq] at h0
    by_cases hh : hereB t r e = true
    · obtain ⟨rfl, rfl⟩ := hereB_iff.1 hh
      have e1 : act e τ e.t e.r = some (e.s, e.v) := by rw [act_put hk, if_pos hh]
      rw [keepT_some e1]
      by_cases hl : lostB l e.s = true
      · rw [if_pos hl, if_pos ⟨h3, hl⟩]
        cases hx : τ e.t e.r with
        | none => exact (keepT_none hx).symm
        | some p => rw [keepT_some hx, hlc, hown p hx, if_pos hl]
      · rw [if_neg hl, if_neg (fun x => hl x.2), act_put hk, if_pos hh]
    · have e1 : act e τ t r = τ t r := by rw [act_put hk, if_neg hh]
      have e2 : keepT l (act e τ) t r = keepT (e :: l) τ t r := by
        cases hx : τ t r with
        | none => rw [keepT_none (e1.trans hx), keepT_none hx]
        | some p => rw [keepT_some (e1.trans hx), keepT_some hx, hlc]
      rw [e2]
      split
      · rfl
      · rw [act_put hk, if_neg hh]
  · have h3 : e.k ≠ 3 := by omega
    have hlc : ∀ s, lostB (e :: l) s = lostB l s := fun s => by rw [lostB_cons]; simp [h3]
    by_cases hh : (hereB t r e && ownB (τ t r) e.s) = true
    · have e1 : act e τ t r = none := by rw [act_del hk, if_pos hh]
      rw [keepT_none e1]
      simp only [Bool.and_eq_true] at hh
      obtain ⟨h4, h5⟩ := hh
      cases hx : τ t r with
      | none => rw [hx] at h5; cases h5
      | some p =>
        rw [hx] at h5
        have h6 : p.1 = e.s := by simpa [ownB] using h5
        by_cases hl : lostB l e.s = true
        · rw [if_pos ⟨h3, hl⟩, keepT_some hx, hlc, h6, if_pos hl]
        · rw [if_neg (fun x => hl x.2), act_del hk]
          have h7 : keepT (e :: l) τ t r = some p := by rw [keepT_some hx, hlc, h6, if_neg hl]
          rw [h7, h4, h5]
          rfl
    · have e1 : act e τ t r = τ t r := by rw [act_del hk, if_neg hh]
      have e2 : keepT l (act e τ) t r = keepT (e :: l) τ t r := by
        cases hx : τ t r with
        | none => rw [keepT_none (e1.trans hx), keepT_none hx]
        | some p => rw [keepT_some (e1.trans hx), keepT_some hx, hlc]
      rw [e2]
      split
      · rfl
      · rw [act_del hk]
        split
        · rename_i h6
          simp only [Bool.and_eq_true] at h6
          cases hx : τ t r with
          | none => rw [keepT_none hx]
          | some p =>
            have h7 := h6.2
            rw [keepT_some hx] at h7
            split at h7
            · cases h7
            · refine absurd ?_ hh
              rw [hx, h6.1, h7]; rfl
        · rfl
  · rw [if_neg (fun x => x.1 hk), act_gone (by omega) (by omega)]
    cases hx : τ t r with
    | none =>
      have e1 : act e τ t r = none := by rw [act_gone (by omega) (by omega), hx]; rfl
      rw [keepT_none e1, keepT_none hx]; rfl
    | some p =>
      by_cases hp : p.1 = e.s
      · have e1 : act e τ t r = none := by rw [act_gone (by omega) (by omega), hx]; simp [ownB, hp]
        have e2 : keepT (e :: l) τ t r = none := by rw [keepT_some hx, lostB_cons]; simp [hk, hp]
        rw [keepT_none e1, e2]; rfl
      · have e1 : act e τ t r = some p := by rw [act_gone (by omega) (by omega), hx]; simp [ownB, hp]
        have hq : ¬ e.s = p.1 := fun x => hp x.symm
        have e2 : keepT (e :: l) τ t r = if lostB l p.1 = true then none else some p := by rw [keepT_some hx, lostB_cons]; simp [hk, hq]
        rw [keepT_some e1, e2]
        by_cases hl : lostB l p.1 = true
        · simp [hl, ownB]
        · simp [hl, ownB, hp]
/-- Who is not forgotten may do it again where those who are never were. -/
theorem late_free {e : Ev} {l : List Ev} {τ : Tab} (hr : rightB e = true) (h0 : refuseB τ e = 0) (h3 : e.k ≠ 3) (hl : lostB l e.s = false) : refuseB (keepT (e :: l) τ) e = 0 := by
  have hlc : ∀ s, lostB (e :: l) s = lostB l s := fun s => by rw [lostB_cons]; simp [h3]
  unfold refuseB at h0 ⊢
  cases hx : τ e.t e.r with
  | none =>
    rw [keepT_none hx]
    rw [hx] at h0
    exact h0
  | some p =>
    rw [hx] at h0
    rw [keepT_some hx, hlc]
    by_cases hp : p.1 = e.s
    · rw [hp, hl]
      exact h0
    · rcases right_kind hr with hk | hk | hk
      · simp [hk, ownB, hp] at h0
      · simp [hk, ownB, hp] at h0
      · exact absurd hk h3
/-- Of one that is forgotten there is nothing to forget. -/
theorem late_gone {e : Ev} {l : List Ev} {τ : Tab} (hr : rightB e = true) (hk : e.k = 3) : app e (keepT (e :: l) τ) = keepT (e :: l) τ := by
  funext t r
  rw [app_right hr, act_gone (by omega) (by omega)]
  split
  · rename_i h
    cases hx : τ t r with
    | none => rw [keepT_none hx]
    | some p =>
      rw [keepT_some hx] at h ⊢
      by_cases hl : lostB (e :: l) p.1 = true
      · rw [if_pos hl]
      · rw [if_neg hl] at h
        have h6 : p.1 = e.s := by simpa [ownB] using h
        refine absurd ?_ hl
        rw [lostB_cons, h6]
        simp [hk]
  · rfl
end Go.Proofs.YtkbaalenbpgheaaGreatDoor

/- What was done may be done again where those who are forgotten never were: as mathematics. -/
namespace Go.Proofs.YtkbaalenbpgheaaGreatDoor
open Go.RowKit Go.Sort
set_option linter.unusedSectionVars false
variable [Inhabited Cl] [Inhabited Ev]
theorem hist_sub {sec : ByteArray} : ∀ (es : List Ev) (s : Hst), ∀ e ∈ (hist sec es s).ok, e ∈ s.ok ∨ e ∈ es
  | [], s, e, he => .inl he
  | f :: es, s, e, he => by
    rcases hist_sub (sec := sec) es (hstep sec s f) e he with h | h
    · unfold hstep at h
      split at h
      · rcases List.mem_append.1 h with h | h
        · exact .inl h
        · exact .inr (by simp at h; simp [h])
      · exact .inl h
    · exact .inr (by simp [h])
/-- Each event that was done might be, and was not refused. -/
theorem Did.free {sec : ByteArray} {s : Hst} (h : Did sec s) : ∀ k, k < s.ok.length → rightB (s.ok.getD k ev0) = true ∧ refuseB (runs (s.ok.take k) tab0) (s.ok.getD k ev0) = 0 := by
  refine h.ind (P := fun s => ∀ k, k < s.ok.length → rightB (s.ok.getD k ev0) = true ∧ refuseB (runs (s.ok.take k) tab0) (s.ok.getD k ev0) = 0) (fun k hk => by simp [hst0] at hk) ?_
  · intro s e hd ih hdo k hk
    simp only at hk ⊢
    by_cases hk2 : k < s.ok.length
    · have a1 : (s.ok ++ [e]).getD k ev0 = s.ok.getD k ev0 := by simp [List.getD_eq_getElem?_getD, List.getElem?_append_left hk2]
      rw [a1, List.take_append_of_le_length (by omega)]
      exact ih k hk2
    · have hk4 : k = s.ok.length := by simp at hk; omega
      subst hk4
      have a1 : (s.ok ++ [e]).getD s.ok.length ev0 = e := by simp [List.getD_eq_getElem?_getD]
      have a4 : (s.ok ++ [e]).take s.ok.length = s.ok := by simp
      rw [a1, a4, ← hd.tau]
      exact does_parts hdo
theorem drop_cons {es : List Ev} {k : Nat} (h : k < es.length) : es.drop k = es.getD k ev0 :: es.drop (k + 1) := by
  rw [List.drop_eq_getElem_cons h, List.getD_eq_getElem?_getD, List.getElem?_eq_getElem h]
  rfl
theorem take_snoc {es : List Ev} {k : Nat} (h : k < es.length) : es.take (k + 1) = es.take k ++ [es.getD k ev0] := by
  rw [List.take_succ_eq_append_getElem h, List.getD_eq_getElem?_getD, List.getElem?_eq_getElem h]
  rfl
/-- The rows behind k events of those who are not forgotten by the others. -/
def lateT (ok : List Ev) (k : Nat) : Tab := keepT (ok.drop k) (runs (ok.take k) tab0)
theorem lateT_start (ok : List Ev) : lateT ok 0 = tab0 := by
  unfold lateT
  rw [List.take_zero]
  exact keepT_tab0 _
theorem lateT_end (ok : List Ev) : lateT ok ok.length = runs ok tab0 := by
  unfold lateT
  rw [List.drop_length, List.take_length, keepT_nil]
theorem lateT_step {sec : ByteArray} {s : Hst} (h : Did sec s) {k : Nat} (hk : k < s.ok.length) : lateT s.ok (k + 1) = if (s.ok.getD k ev0).k ≠ 3 ∧ lostB (s.ok.drop (k + 1)) (s.ok.getD k ev0).s = true then lateT s.ok k else app (s.ok.getD k ev0) (lateT s.ok k) := by
  obtain ⟨h1, h2⟩ := h.free k hk
  unfold lateT
  rw [take_snoc hk, runs_snoc, late_step h1 h2, ← drop_cons hk]
theorem lateT_gone {sec : ByteArray} {s : Hst} (h : Did sec s) {k : Nat} (hk : k < s.ok.length) (h3 : (s.ok.getD k ev0).k = 3) : lateT s.ok (k + 1) = lateT s.ok k := by
  rw [lateT_step h hk, if_neg (fun x => x.1 h3)]
  unfold lateT
  rw [drop_cons hk]
  exact late_gone (h.free k hk).1 h3
theorem lateT_does {sec : ByteArray} {s : Hst} (h : Did sec s) {k : Nat} (hk : k < s.ok.length) (h3 : (s.ok.getD k ev0).k ≠ 3) (hl : lostB (s.ok.drop (k + 1)) (s.ok.getD k ev0).s = false) (σ : Kept) : doesB σ (lateT s.ok k) (s.ok.getD k ev0) = true := by
  obtain ⟨h1, h2⟩ := h.free k hk
  have h4 : refuseB (lateT s.ok k) (s.ok.getD k ev0) = 0 := by
    unfold lateT
    rw [drop_cons hk]
    exact late_free h1 h2 h3 hl
  generalize s.ok.getD k ev0 = e at h1 h3 h4 ⊢
  unfold doesB
  rw [h1, h4]
  simp [h3]
end Go.Proofs.YtkbaalenbpgheaaGreatDoor

/- The laws' own done: a source to which events happened, those that were done, and its rows behind each. -/
namespace Go.Proofs.YtkbaalenbpgheaaGreatDoor
open Go.RowKit Go.Sort
attribute [local go_sem ↓] Go.wp_at_zero Go.wp_at_succ
set_option linter.unusedSectionVars false
variable [Inhabited Cl] [Inhabited Ev]
theorem hist_few {sec : ByteArray} : ∀ (es : List Ev) (s : Hst), (hist sec es s).ok.length ≤ s.ok.length + es.length
  | [], s => by show s.ok.length ≤ s.ok.length + 0; omega
  | e :: es, s => by
    have h := hist_few (sec := sec) es (hstep sec s e)
    have h2 : (hstep sec s e).ok.length ≤ s.ok.length + 1 := by
      unfold hstep
      split
      · simp
      · omega
    show (hist sec es (hstep sec s e)).ok.length ≤ _
    simp only [List.length_cons]
    omega
theorem getD_eq! {es : List Ev} {k : Nat} (h : k < es.length) : es.getD k ev0 = es[k]! := by
  rw [getElem!_pos es k h, List.getD_eq_getElem?_getD, List.getElem?_eq_getElem h]
  rfl
theorem Dn.start {w w1 : World} (hS : Src w.heap.size w1 (w.heap.size + 2) (w.heap.size + 1) w.heap.size none none (.slice none 0 0) 0 0 secB kept0 tab0 []) (hb : w.heap.size ≤ w1.heap.size) : Dn w.heap.size (w1.alloc (.cells #[.slice none 0 0] 45)) kept0 tab0 [] 0 [] (.slice none 0 0) (.slice (some ⟨w1.heap.size, 0, none⟩) 1 1) [.slice none 0 0] := by
  refine ⟨⟨_, _, _, hS.still ((Below.refl _ w1).alloc (Nat.le_refl _) _), (fun u hu g hg => by simp at hu; subst hu; cases hg)⟩, World.ownsRow_nil _ _ _ _, ?_, (fun u hu g hg => by simp at hu; subst hu; cases hg), fun j hj => ?_⟩
  · exact World.ownsRow_lit w1 #[.slice none 0 0] 1 hb (by unfold maxLen; omega) rfl
  · have : j = 0 := by simpa using hj
    subst this
    exact ⟨[], inOrd0, Nat.zero_le _, .inl ⟨rfl, rfl⟩⟩
set_option maxRecDepth 100000 in
set_option maxHeartbeats 8000000 in
theorem done_any (v : Value) (es : List Ev) (w : World) (T : Tabs w) (hv : EvRow w v es) (h60 : es.length ≤ 60) (hbr : ∀ e ∈ es, Brief e) :
    Calls Tryz.prog 9 #[v] w fun x w' => ∃ vok vrows vals, x = .returned (.tuple #[.pointer (some ⟨w.heap.size + 2, 0, none⟩), vok, vrows]) ∧ Dn w.heap.size w' (hist secB es hst0).σ (hist secB es hst0).τ (hist secB es hst0).rs (hist secB es hst0).ok.length (hist secB es hst0).ok vok vrows vals ∧ vals.length = (hist secB es hst0).ok.length + 1 ∧ Below w.heap.size w w' := by
  have HV := hide hv
  have TK := T.k.lt
  have TT := hide T
  have BR := hide hbr
  have N := hide (srcNew_ok secB w rfl)
  obtain ⟨ao, cap, rfl⟩ := hv.slice
  have hne := nilNe
  have hps := ptrS_nil
  obtain ⟨i0, hi, hz0, hz1, hz2⟩ := info_parts info35
  obtain ⟨i1, gi, gz0, gz1, gz2⟩ := info_parts info57
  clear hv T hbr
  go_enter Tryz.func9, Tryz.ntmps9
  go_wp2_with (
    go_at_call 47; (refine N.out.mono ?_); rintro x w1 ⟨rfl, hS1, hb1⟩
    have D1 := hide (Dn.start hS1 hb1.size)
    have B1 := hide (hb1.alloc hb1.size (.cells #[.slice none 0 0] 45))
    clear hS1 hb1)
  go_loopw [7, 8, 9] (fun a b i wr => ∃ (vok vrows : Value) (k : Nat) (vals : List Value), vok = a ∧ vrows = b ∧ i = .int .i64 k ∧ k ≤ es.length ∧ Dn w.heap.size wr (hist secB (es.take k) hst0).σ (hist secB (es.take k) hst0).τ (hist secB (es.take k) hst0).rs (hist secB (es.take k) hst0).ok.length (hist secB (es.take k) hst0).ok vok vrows vals ∧ vals.length = (hist secB (es.take k) hst0).ok.length + 1 ∧ Below w.heap.size w wr) (fun _ _ i _ => es.length - (intOf i).toNat)
  case atStart => exact ⟨_, _, 0, [.slice none 0 0], rfl, rfl, rfl, Nat.zero_le _, by rw [List.take_zero]; exact D1.out, rfl, B1.out⟩
  case round =>
    clear D1 B1 N hps
    obtain ⟨vok, vrows, k, vals, rfl, rfl, rfl, hk, hD, hvl, hb⟩ := hrel
    have D := hide hD
    have BB := hide hb
    clear hD hb
    by_cases hlt : k < es.length
    · have HS := hide (hist_take (sec := secB) (s := hst0) hlt)
      rw [getD_eq! hlt] at HS
      have hfew := hist_few (sec := secB) (es.take k) hst0
      have hDid := hide (Did.hist (sec := secB) (es.take k) Did.none)
      rw [List.length_take] at hfew
      have hf0 : hst0.ok.length = 0 := rfl
      obtain ⟨b, off, rfl, hcap, hc⟩ := HV.out.spot hlt
      have hbrf : Brief es[k]! := BR.out _ (by rw [getElem!_pos es k hlt]; exact List.getElem_mem hlt)
      have HC := hide hc
      have HBR := hide hbrf
      clear hc hbrf
      generalize es[k]! = e at HC HBR HS
      generalize hist secB (es.take k) hst0 = st at D HS hfew hDid hvl
      obtain ⟨mt, mv, vv, hS, hoff⟩ := D.out.src
      have S := hide hS
      have OF := hide hoff
      have hrl := hide hDid.out.recs.1
      clear hS hoff
      obtain ⟨c0, c1, c2, c3, c4, hlb⟩ := evs_at BB.out (Nat.le_refl _) HC.out
      cases hd : doesB st.σ st.τ e
      · have D6 := hide (do_no _ _ _ _ _ _ _ _ _ _ _ _ _ _ e S.out HBR.out (by decide) (by rw [hrl.out]; omega) (by omega) (by omega) (TT.out.below BB.out TK) (by omega) hd)
        have hen := errEq
        rw [hstep_no hd] at HS
        go_wp2_with (
          go_at_call 10; (with_reducible refine D6.out.mono ?_); rintro x w7 ⟨⟨z, rfl⟩, hS7, hb7⟩
          have B7 := hide (hb7.alloc hb7.size (.cells #[.int .i64 0, .string ⟨#[]⟩, .int .i64 0, .string ⟨#[]⟩, .string ⟨#[]⟩] 30))
          clear hS7 hb7)
        exact ⟨⟨_, _, k + 1, vals, rfl, rfl, by go_num, by omega, by rw [HS.out]; exact D.out.still B7.out, by rw [HS.out]; exact hvl, BB.out.trans (B7.out.mono BB.out.size)⟩, by simp [intOf]; omega⟩
      · have D6 := hide (do_yes _ _ _ _ _ _ _ _ _ _ _ _ _ _ e S.out HBR.out (by decide) (by rw [hrl.out]; omega) (by omega) (by omega) (TT.out.below BB.out TK) (by omega) hd)
        have hen := nilEq
        rw [hstep_yes hd] at HS
        go_upto_region 11 with (
          go_at_call 10; (with_reducible refine D6.out.mono ?_); rintro x w7 ⟨Q, hQ, rfl, ⟨mt7, m7, v7, hS7, hN7⟩, hs7, hb7⟩
          have Z := (Below.refl _ w7).alloc (Nat.le_refl _) (.cells #[.int .i64 (Q.q : Int), .string Q.s, .int .i64 (Q.g : Int), .string Q.p, .string Q.d] 30)
          have D7 := hide ((Dn.do D.out S.out OF.out hS7 hN7 hs7).still Z)
          have B7 := hide ((BB.out.trans hb7).trans (Z.mono (BB.out.trans hb7).size))
          have HQ := hide hQ
          clear hQ hS7 hN7 hs7 hb7 Z)
        clear c0 c1 c2 c3 c4 hlb D6
        generalize w7.alloc (.cells #[.int .i64 (Q.q : Int), .string Q.s, .int .i64 (Q.g : Int), .string Q.p, .string Q.d] 30) = W1 at D7 B7 ⊢
        obtain ⟨c0, c1, c2, c3, c4, hlb⟩ := evs_at B7.out (Nat.le_refl _) HC.out
        have hok := D7.out.noted
        have hsz := B7.out.size
        go_upto_region 12 with (
          at_builtin; go_loud (refine wpList_append_lies _ rfl _ _ 22 rfl w.heap.size 36 i0 _ 5 72 Tryz.underlying22 hi hz0 hz1 hz2 rfl (by omega) vok st.ok.length (evsL st.ok) rfl (hok.alloc _) ⟨W1.heap.size, 0, none⟩ 1 1 (evL e) rfl rfl (World.news_of_block (cs := #[.int .i64 e.k, .string e.s, .string e.t, .string e.r, .string e.v]) (t := 36) (fr := (0, 0)) (heap_alloc_new W1 _)) (by simp [Value.oneCell', evL]) (by omega) (by unfold maxLen; omega) (by omega) (by simp; omega) (W1.heap.size + 1) (by simp) ?_); intro g3 cp3 w3 hown hgrow hat hlt3
          have hA := (Below.refl _ W1).alloc (Nat.le_refl _) (.cells #[.int .i64 e.k, .string e.s, .string e.t, .string e.r, .string e.v] 36)
          have D3 := hide (Dn.note (D7.out.still hA) hvl rfl hown hgrow (hat.imp id (fun e1 => by rw [e1]; simp)))
          have B3 := hide ((B7.out.trans (hA.mono hsz)).trans ((Stirred.of_grownO hgrow).below (B7.out.trans (hA.mono hsz)).size (fun j hj => (hok.lt j (by simpa using hj)).1)))
          clear hown hgrow hat hlt3 hA)
        clear c0 c1 c2 c3 c4 hlb D7 B7 hok hsz
        obtain ⟨mt3, mv3, v3, hS3, hoff3⟩ := D3.out.src
        have C3 := hide (srcCells_any _ w3 _ _ _ _ _ _ _ _ _ _ _ _ hS3 (by omega))
        have hrw := D3.out.rows
        have ht := hide hDid.out.tau
        clear hS3 hoff3
        go_wp2_with (first
          | (go_at_call 16; (with_reducible refine C3.out.mono ?_); rintro x w4 ⟨u, ds, rfl, ho, hl, hr, hb⟩
             obtain ⟨pu, cu, rfl⟩ := hr.slice
             have O4 := hide ho
             have R4 := hide hr
             have B4 := hide hb
             have hrw4 := ownsRow_below hrw hb
             have hs4 := hb.size
             have hs3 := B3.out.size
             clear ho hr hb)
          | (at_builtin; refine wpList_append_lies _ rfl _ _ 26 rfl w.heap.size 45 i1 _ 1 24 Tryz.underlying26 gi gz0 gz1 gz2 rfl (by omega) vrows vals.length vals rfl (hrw4.alloc _) ⟨w4.heap.size, 0, none⟩ 1 1 [.slice pu ds.length cu] rfl rfl (World.news_of_block (cs := #[.slice pu ds.length cu]) (t := 45) (fr := (0, 0)) (heap_alloc_new w4 _)) (by simp [Value.oneCell']) (by omega) (by unfold maxLen; omega) (by omega) (by simp; omega) (w4.heap.size + 1) (by simp) ?_; intro g5 cp5 w5 hown hgrow hat hlt5
             have hA := B4.out.alloc B4.out.size (.cells #[.slice pu ds.length cu] 45)
             have D5 := hide (Dn.row D3.out hA (by simp; omega) rfl (by rw [runs_snoc, ← ht.out]; exact O4.out) (by simp; omega) (R4.out.below ((Below.refl _ w4).alloc (Nat.le_refl _) _) (Nat.le_refl _)) hown hgrow (hat.imp id (fun e1 => by rw [e1]; simp)))
             have B5 := hide ((B3.out.trans (hA.mono hs3)).trans ((Stirred.of_grownO hgrow).below (B3.out.trans (hA.mono hs3)).size (fun j hj => (hrw.lt j (by simpa using hj)).1)))
             clear hown hgrow hat hlt5 hA))
        exact ⟨⟨_, _, k + 1, vals ++ [.slice pu ds.length cu], rfl, rfl, by go_num, by omega, by rw [HS.out]; simp only [List.length_append, List.length_singleton]; rw [← HQ.out]; have h5 := D5.out; rw [hvl] at h5; exact h5, by rw [HS.out]; simp; omega, B5.out⟩, by simp [intOf]; omega⟩
    · have ek : k = es.length := by omega
      subst ek
      rw [List.take_length] at D hvl
      go_wp2
      go_ret3
      exact ⟨_, _, vals, rfl, D.out, hvl, BB.out⟩
end Go.Proofs.YtkbaalenbpgheaaGreatDoor
