/- Texts of this proof, one behind the other. -/
import Derived.Test.YtbmiheebhinbpaaGreatDoorPart32
/- The rows of those who are not forgotten, as mathematics: what a late reader has, and who tells it on. -/
namespace Go.Proofs.YtbmiheebhinbpaaGreatDoor
open Go.RowKit Go.Sort
/-- The rows of those alone that are not forgotten. -/
def keepT (l : List Ev) (τ : Tab) : Tab := fun t r =>
  match τ t r with
  | some p => if lostB l p.1 = true then none else some p
  | none => none
theorem keepT_none {l : List Ev} {τ : Tab} {t r : ByteArray} (h : τ t r = none) : keepT l τ t r = none := by unfold keepT; rw [h]
theorem keepT_some {l : List Ev} {τ : Tab} {t r : ByteArray} {p : ByteArray × ByteArray} (h : τ t r = some p) : keepT l τ t r = if lostB l p.1 = true then none else some p := by unfold keepT; rw [h]
theorem keepT_nil (τ : Tab) : keepT [] τ = τ := by
  funext t r
  cases h : τ t r with
  | none => exact keepT_none h
  | some p => rw [keepT_some h]; rfl
theorem keepT_tab0 (l : List Ev) : keepT l tab0 = tab0 := rfl
theorem lostB_cons (e : Ev) (l : List Ev) (s : ByteArray) : lostB (e :: l) s = ((decide (e.k = 3) && decide (e.s = s)) || lostB l s) := rfl
/-- What a late reader has behind an event that was done. -/
theorem late_step {e : Ev} {l : List Ev} {τ : Tab} (hr : rightB e = true) (h0 : refuseB τ e = 0) :
    keepT l (app e τ) = if e.k ≠ 3 ∧ lostB l e.s = true then keepT (e :: l) τ else app e (keepT (e :: l) τ) := by
  funext t r
  rw [app_right hr, app_right hr]
  rcases right_kind hr with hk | hk | hk
  · have h3 : e.k ≠ 3 := by omega
    have hlc : ∀ s, lostB (e :: l) s = lostB l s := fun s => by rw [lostB_cons]; simp [h3]
    have hown : ∀ p, τ e.t e.r = some p → p.1 = e.s := fun p hp => by
      unfold refuseB at h0
      rw [hp] at h0
      simp only [hk, ownB] at h0
      by_cases hq : p.1 = e.s
      · exact hq
      · simp [hq] at h0
    by_cases hh : hereB t r e = true
    · obtain ⟨rfl, rfl⟩ := hereB_iff.1 hh
      have e1 : act e τ e.t e.r = some (e.s, e.v) := by rw [act_put hk, if_pos hh]
      rw [keepT_some e1]
      by_cases hl : lostB l e.s = true
      · rw [if_pos hl, if_pos ⟨h3, hl⟩]
        cases hx : τ e.t e.r with
        | none => exact (keepT_none hx).symm
        | some p => rw [keepT_some hx, hlc, hown p hx, if_pos hl]
      · rw [if_neg hl, if_neg (fun x => hl x.2), act_put hk, if_pos hh]
    · have e1 : act e τ t r = τ t r := by rw [act_put hk, if_neg hh]
      have e2 : keepT l (act e τ) t r = keepT (e :: l) τ t r := by
        cases hx : τ t r with
        | none => rw [keepT_none (e1.trans hx), keepT_none hx]
        | some p => rw [keepT_some (e1.trans hx), keepT_some hx, hlc]
      rw [e2]
      split
      · rfl
      · rw [act_put hk, if_neg hh]
  · have h3 : e.k ≠ 3 := by omega
    have hlc : ∀ s, lostB (e :: l) s = lostB l s := fun s => by rw [lostB_cons]; simp [h3]
    by_cases hh : (hereB t r e && ownB (τ t r) e.s) = true
    · have e1 : act e τ t r = none := by rw [act_del hk, if_pos hh]
      rw [keepT_none e1]
      simp only [Bool.and_eq_true] at hh
      obtain ⟨h4, h5⟩ := hh
      cases hx : τ t r with
      | none => rw [hx] at h5; cases h5
      | some p =>
        rw [hx] at h5
        have h6 : p.1 = e.s := by simpa [ownB] using h5
        by_cases hl : lostB l e.s = true
        · rw [if_pos ⟨h3, hl⟩, keepT_some hx, hlc, h6, if_pos hl]
        · rw [if_neg (fun x => hl x.2), act_del hk]
          have h7 : keepT (e :: l) τ t r = some p := by rw [keepT_some hx, hlc, h6, if_neg hl]
          rw [h7, h4, h5]
          rfl
    · have e1 : act e τ t r = τ t r := by rw [act_del hk, if_neg hh]
      have e2 : keepT l (act e τ) t r = keepT (e :: l) τ t r := by
        cases hx : τ t r with
        | none => rw [keepT_none (e1.trans hx), keepT_none hx]
        | some p => rw [keepT_some (e1.trans hx), keepT_some hx, hlc]
      rw [e2]
      split
      · rfl
      · rw [act_del hk]
        split
        · rename_i h6
          simp only [Bool.and_eq_true] at h6
          cases hx : τ t r with
          | none => rw [keepT_none hx]
          | some p =>
            have h7 := h6.2
            rw [keepT_some hx] at h7
            split at h7
            · cases h7
            · refine absurd ?_ hh
              rw [hx, h6.1, h7]; rfl
        · rfl
  · rw [if_neg (fun x => x.1 hk), act_gone (by omega) (by omega)]
    cases hx : τ t r with
    | none =>
      have e1 : act e τ t r = none := by rw [act_gone (by omega) (by omega), hx]; rfl
      rw [keepT_none e1, keepT_none hx]; rfl
    | some p =>
      by_cases hp : p.1 = e.s
      · have e1 : act e τ t r = none := by rw [act_gone (by omega) (by omega), hx]; simp [ownB, hp]
        have e2 : keepT (e :: l) τ t r = none := by rw [keepT_some hx, lostB_cons]; simp [hk, hp]
        rw [keepT_none e1, e2]; rfl
      · have e1 : act e τ t r = some p := by rw [act_gone (by omega) (by omega), hx]; simp [ownB, hp]
        have hq : ¬ e.s = p.1 := fun x => hp x.symm
        have e2 : keepT (e :: l) τ t r = if lostB l p.1 = true then none else some p := by rw [keepT_some hx, lostB_cons]; simp [hk, hq]
        rw [keepT_some e1, e2]
        by_cases hl : lostB l p.1 = true
        · simp [hl, ownB]
        · simp [hl, ownB, hp]
/-- Who is not forgotten may do it again where those who are never were. -/
theorem late_free {e : Ev} {l : List Ev} {τ : Tab} (hr : rightB e = true) (h0 : refuseB τ e = 0) (h3 : e.k ≠ 3) (hl : lostB l e.s = false) : refuseB (keepT (e :: l) τ) e = 0 := by
  have hlc : ∀ s, lostB (e :: l) s = lostB l s := fun s => by rw [lostB_cons]; simp [h3]
  unfold refuseB at h0 ⊢
  cases hx : τ e.t e.r with
  | none =>
    rw [keepT_none hx]
    rw [hx] at h0
    exact h0
  | some p =>
    rw [hx] at h0
    rw [keepT_some hx, hlc]
    by_cases hp : p.1 = e.s
    · rw [hp, hl]
      exact h0
    · rcases right_kind hr with hk | hk | hk
      · simp [hk, ownB, hp] at h0
      · simp [hk, ownB, hp] at h0
      · exact absurd hk h3
/-- Of one that is forgotten there is nothing to forget. -/
theorem late_gone {e : Ev} {l : List Ev} {τ : Tab} (hr : rightB e = true) (hk : e.k = 3) : app e (keepT (e :: l) τ) = keepT (e :: l) τ := by
  funext t r
  rw [app_right hr, act_gone (by omega) (by omega)]
  split
  · rename_i h
    cases hx : τ t r with
    | none => rw [keepT_none hx]
    | some p =>
      rw [keepT_some hx] at h ⊢
      by_cases hl : lostB (e :: l) p.1 = true
      · rw [if_pos hl]
      · rw [if_neg hl] at h
        have h6 : p.1 = e.s := by simpa [ownB] using h
        refine absurd ?_ hl
        rw [lostB_cons, h6]
        simp [hk]
  · rfl
end Go.Proofs.YtbmiheebhinbpaaGreatDoor

/- What was done may be done again where those who are forgotten never were: as mathematics. -/
namespace Go.Proofs.YtbmiheebhinbpaaGreatDoor
open Go.RowKit Go.Sort
set_option linter.unusedSectionVars false
variable [Inhabited Cl] [Inhabited Ev]
theorem hist_sub {sec : ByteArray} : ∀ (es : List Ev) (s : Hst), ∀ e ∈ (hist sec es s).ok, e ∈ s.ok ∨ e ∈ es
  | [], s, e, he => .inl he
  | f :: es, s, e, he => by
    rcases hist_sub (sec := sec) es (hstep sec s f) e he with h | h
    · unfold hstep at h
      split at h
      · rcases List.mem_append.1 h with h | h
        · exact .inl h
        · exact .inr (by simp at h; simp [h])
      · exact .inl h
    · exact .inr (by simp [h])
/-- Each event that was done might be, and was not refused. -/
theorem Did.free {sec : ByteArray} {s : Hst} (h : Did sec s) : ∀ k, k < s.ok.length → rightB (s.ok.getD k ev0) = true ∧ refuseB (runs (s.ok.take k) tab0) (s.ok.getD k ev0) = 0 := by
  refine h.ind (P := fun s => ∀ k, k < s.ok.length → rightB (s.ok.getD k ev0) = true ∧ refuseB (runs (s.ok.take k) tab0) (s.ok.getD k ev0) = 0) (fun k hk => by simp [hst0] at hk) ?_
  · intro s e hd ih hdo k hk
    simp only at hk ⊢
    by_cases hk2 : k < s.ok.length
    · have a1 : (s.ok ++ [e]).getD k ev0 = s.ok.getD k ev0 := by simp [List.getD_eq_getElem?_getD, List.getElem?_append_left hk2]
      rw [a1, List.take_append_of_le_length (by omega)]
      exact ih k hk2
    · have hk4 : k = s.ok.length := by simp at hk; omega
      subst hk4
      have a1 : (s.ok ++ [e]).getD s.ok.length ev0 = e := by simp [List.getD_eq_getElem?_getD]
      have a4 : (s.ok ++ [e]).take s.ok.length = s.ok := by simp
      rw [a1, a4, ← hd.tau]
      exact does_parts hdo
theorem drop_cons {es : List Ev} {k : Nat} (h : k < es.length) : es.drop k = es.getD k ev0 :: es.drop (k + 1) := by
  rw [List.drop_eq_getElem_cons h, List.getD_eq_getElem?_getD, List.getElem?_eq_getElem h]
  rfl
theorem take_snoc {es : List Ev} {k : Nat} (h : k < es.length) : es.take (k + 1) = es.take k ++ [es.getD k ev0] := by
  rw [List.take_succ_eq_append_getElem h, List.getD_eq_getElem?_getD, List.getElem?_eq_getElem h]
  rfl
/-- The rows behind k events of those who are not forgotten by the others. -/
def lateT (ok : List Ev) (k : Nat) : Tab := keepT (ok.drop k) (runs (ok.take k) tab0)
theorem lateT_start (ok : List Ev) : lateT ok 0 = tab0 := by
  unfold lateT
  rw [List.take_zero]
  exact keepT_tab0 _
theorem lateT_end (ok : List Ev) : lateT ok ok.length = runs ok tab0 := by
  unfold lateT
  rw [List.drop_length, List.take_length, keepT_nil]
theorem lateT_step {sec : ByteArray} {s : Hst} (h : Did sec s) {k : Nat} (hk : k < s.ok.length) : lateT s.ok (k + 1) = if (s.ok.getD k ev0).k ≠ 3 ∧ lostB (s.ok.drop (k + 1)) (s.ok.getD k ev0).s = true then lateT s.ok k else app (s.ok.getD k ev0) (lateT s.ok k) := by
  obtain ⟨h1, h2⟩ := h.free k hk
  unfold lateT
  rw [take_snoc hk, runs_snoc, late_step h1 h2, ← drop_cons hk]
theorem lateT_gone {sec : ByteArray} {s : Hst} (h : Did sec s) {k : Nat} (hk : k < s.ok.length) (h3 : (s.ok.getD k ev0).k = 3) : lateT s.ok (k + 1) = lateT s.ok k := by
  rw [lateT_step h hk, if_neg (fun x => x.1 h3)]
  unfold lateT
  rw [drop_cons hk]
  exact late_gone (h.free k hk).1 h3
theorem lateT_does {sec : ByteArray} {s : Hst} (h : Did sec s) {k : Nat} (hk : k < s.ok.length) (h3 : (s.ok.getD k ev0).k ≠ 3) (hl : lostB (s.ok.drop (k + 1)) (s.ok.getD k ev0).s = false) (σ : Kept) : doesB σ (lateT s.ok k) (s.ok.getD k ev0) = true := by
  obtain ⟨h1, h2⟩ := h.free k hk
  have h4 : refuseB (lateT s.ok k) (s.ok.getD k ev0) = 0 := by
    unfold lateT
    rw [drop_cons hk]
    exact late_free h1 h2 h3 hl
  generalize s.ok.getD k ev0 = e at h1 h3 h4 ⊢
  unfold doesB
  rw [h1, h4]
  simp [h3]
end Go.Proofs.YtbmiheebhinbpaaGreatDoor

/- A fact that the laws begin with: rows. -/
namespace Go.Proofs.YtbmiheebhinbpaaGreatDoor
open Go.RowKit Go.Sort
attribute [local go_sem ↓] Go.wp_at_zero Go.wp_at_succ
set_option linter.unusedSectionVars false
variable [Inhabited Cl] [Inhabited Ev]
theorem tabV_new (w : World) : TabV (w.alloc (.cells #[.map none] 99)) w.heap.size 99 #[] none 0 tab0 := ⟨HasR.new w 99 _, fun _ => rfl, fun m e => by cases e⟩
theorem Upd.below {w w' : World} {b : Nat} {mo mo' : Option Nat} {n B : Nat} {σ : Tab} (h : Upd w w' b 99 #[] mo mo' n σ) (hB : B ≤ w.heap.size) (hL : ∀ k ∈ b :: mo.toList, B ≤ k) : Below B w w' := h.2.2.below hB hL
theorem Upd.low {w w' : World} {b : Nat} {mo mo' : Option Nat} {n B : Nat} {σ : Tab} (h : Upd w w' b 99 #[] mo mo' n σ) (hB : B ≤ w.heap.size) (hL : ∀ k ∈ b :: mo.toList, B ≤ k) : ∀ k ∈ b :: mo'.toList, B ≤ k := by
  obtain ⟨_, h2, _⟩ := h
  rcases h2 with rfl | ⟨rfl, m, rfl, hm⟩
  · exact hL
  · intro k hk
    rcases List.mem_cons.1 hk with rfl | hk
    · exact hL _ (by simp)
    · simp at hk
      omega
theorem put_apply (b : Nat) (w : World) (hV : TabV w b 99 #[] none 0 tab0) :
    Calls Tryz.prog 69 #[.pointer (some ⟨b, 0, none⟩), .agg #[.int .i64 1, .string ⟨#[97, 110, 110]⟩, .string ⟨#[116]⟩, .string ⟨#[114]⟩, .string ⟨#[118]⟩]] w fun x w' => x = .returned .nilIface ∧ ∃ mo', Upd w w' b 99 #[] none mo' 1 (app putE tab0) := by
  have h := apply_any b 99 #[] none putE 0 tab0 w put_brief (by omega) hV
  rw [put_err] at h
  exact h
theorem gone_apply (b : Nat) (mo : Option Nat) (σ : Tab) (w : World) (hV : TabV w b 99 #[] mo 1 σ) :
    Calls Tryz.prog 69 #[.pointer (some ⟨b, 0, none⟩), .agg #[.int .i64 3, .string ⟨#[97, 110, 110]⟩, .string ⟨#[]⟩, .string ⟨#[]⟩, .string ⟨#[]⟩]] w fun x w' => x = .returned .nilIface ∧ ∃ mo', Upd w w' b 99 #[] mo mo' 2 (app goneE σ) := by
  have h := apply_any b 99 #[] mo goneE 1 σ w gone_brief (by omega) hV
  rw [gone_err] at h
  exact h
theorem put_get (b : Nat) (mo : Option Nat) (w : World) (hV : TabV w b 99 #[] mo 1 (app putE tab0)) :
    Calls Tryz.prog 70 #[.pointer (some ⟨b, 0, none⟩), .string ⟨#[116]⟩, .string ⟨#[114]⟩] w fun x w' => x = .returned (.tuple #[.agg #[.string ⟨#[116]⟩, .string ⟨#[114]⟩, .string ⟨#[97, 110, 110]⟩, .string ⟨#[118]⟩], .nilIface]) ∧ Below w.heap.size w w' := by
  have h := get_any b 99 #[] mo ⟨#[116]⟩ ⟨#[114]⟩ 1 _ w (by decide) (by decide) hV
  have eg : getV (app putE tab0) ⟨#[116]⟩ ⟨#[114]⟩ = .tuple #[.agg #[.string ⟨#[116]⟩, .string ⟨#[114]⟩, .string ⟨#[97, 110, 110]⟩, .string ⟨#[118]⟩], .nilIface] := by
    unfold getV; rw [atC_some put_at, put_at]; rfl
  rw [eg] at h
  exact h
theorem none_cells (b : Nat) (mo : Option Nat) (w : World) (hV : TabV w b 99 #[] mo 2 (app goneE (app putE tab0))) :
    Calls Tryz.prog 71 #[.pointer (some ⟨b, 0, none⟩)] w fun x w' => (∃ p c, x = .returned (.slice p 0 c)) ∧ Below w.heap.size w w' := by
  refine (cells_any b 99 #[] mo 2 _ w (by omega) hV).mono ?_
  rintro x w' ⟨v, ds, rfl, ho, _, hr, hb⟩
  rw [gone_all] at ho
  obtain rfl := ho.eq inOrd0
  obtain ⟨p, c, rfl⟩ := hr.len
  exact ⟨⟨p, c, rfl⟩, hb⟩
set_option maxRecDepth 100000 in
set_option maxHeartbeats 2000000 in
theorem applied_any (w : World) : Calls Tryz.prog 25 #[] w fun x w' => x = .returned (.bool true) ∧ Below w.heap.size w w' := by
  have bel0 : Below w.heap.size w (w.alloc (.cells #[.map none] 99)) := (Below.refl _ w).alloc (Nat.le_refl _) _
  have A1 := hide (put_apply w.heap.size (w.alloc (.cells #[.map none] 99)) (tabV_new w))
  have hn := nilIface_ne
  have he := nilIface_eq
  have hc := cell_eql ⟨⟨#[116]⟩, ⟨#[114]⟩, ⟨#[97, 110, 110]⟩, ⟨#[118]⟩⟩ ⟨⟨#[116]⟩, ⟨#[114]⟩, ⟨#[97, 110, 110]⟩, ⟨#[118]⟩⟩
  rw [eqC_self] at hc
  have hg := guard42
  simp only at hc
  go_enter Tryz.func25, Tryz.ntmps25
  go_wp2_with (first
    | (go_at_call 69; (with_reducible refine A1.out.mono ?_); rintro x w1 ⟨rfl, mo1, hu1⟩
       have bel1 := hide (bel0.trans (hu1.below (by simp) (by simp)))
       have low1 := hide (hu1.low (B := w.heap.size) (by simp) (by simp))
       have hs1 := bel1.out.size
       have U1 := hide hu1
       clear hu1
       have G := hide (put_get w.heap.size mo1 w1 U1.out.1))
    | (go_at_call 70; (with_reducible refine G.out.mono ?_); rintro x w2 ⟨rfl, hb2⟩
       have hb3 : Below w1.heap.size w1 (w2.alloc (.cells #[.string ⟨#[116]⟩, .string ⟨#[114]⟩, .string ⟨#[97, 110, 110]⟩, .string ⟨#[118]⟩] 59)) := hb2.alloc hb2.size _
       have hs2 := hb2.size
       have A2 := hide (gone_apply w.heap.size mo1 _ _ (U1.out.1.below hb3))
       have B3 := hide hb3
       clear hb2 hb3)
    | (go_at_call 69; (with_reducible refine A2.out.mono ?_); rintro x w3 ⟨rfl, mo2, hu2⟩
       have U2 := hide hu2
       clear hu2
       have C := hide (none_cells w.heap.size mo2 w3 U2.out.1))
    | (go_at_call 71; (with_reducible refine C.out.mono ?_); rintro x w4 ⟨⟨p, c, rfl⟩, hb4⟩))
  go_ret
  have h3 := U2.out.below (B := w.heap.size) (by simp; omega) low1.out
  exact ⟨rfl, ((bel1.out.trans (B3.out.mono hs1)).trans h3).trans (hb4.mono (by have := h3.size; simp at this; omega))⟩
end Go.Proofs.YtbmiheebhinbpaaGreatDoor
