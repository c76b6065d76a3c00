/- Texts of this proof, one behind the other. -/
import Derived.Shelf.Sort.Plain
import Derived.Shelf.Slices.In.SortNone
import Derived.Shelf.Slices.In.SortNone2
import Derived.Test.YtkbaalenbpgheaaGreatDoorPart31
/- The rows of those who are not forgotten, as mathematics: what a late reader has, and who tells it on. -/
namespace Go.Proofs.YtkbaalenbpgheaaGreatDoor
open Go.RowKit Go.Sort
/-- The rows of those alone that are not forgotten. -/
def keepT (l : List Ev) (τ : Tab) : Tab := fun t r =>
  match τ t r with
  | some p => if lostB l p.1 = true then none else some p
  | none => none
theorem keepT_none {l : List Ev} {τ : Tab} {t r : ByteArray} (h : τ t r = none) : keepT l τ t r = none := by unfold keepT; rw [h]
theorem keepT_some {l : List Ev} {τ : Tab} {t r : ByteArray} {p : ByteArray × ByteArray} (h : τ t r = some p) : keepT l τ t r = if lostB l p.1 = true then none else some p := by unfold keepT; rw [h]
theorem keepT_nil (τ : Tab) : keepT [] τ = τ := by
  funext t r
  cases h : τ t r with
  | none => exact keepT_none h
  | some p => rw [keepT_some h]; rfl
theorem keepT_tab0 (l : List Ev) : keepT l tab0 = tab0 := rfl
theorem lostB_cons (e : Ev) (l : List Ev) (s : ByteArray) : lostB (e :: l) s = ((decide (e.k = 3) && decide (e.s = s)) || lostB l s) := rfl
/-- What a late reader has behind an event that was done. -/
theorem late_step {e : Ev} {l : List Ev} {τ : Tab} (hr : rightB e = true) (h0 : refuseB τ e = 0) :
    keepT l (app e τ) = if e.k ≠ 3 ∧ lostB l e.s = true then keepT (e :: l) τ else app e (keepT (e :: l) τ) := by
  funext t r
  rw [app_right hr, app_right hr]
  rcases right_kind hr with hk | hk | hk
  · have h3 : e.k ≠ 3 := by omega
    have hlc : ∀ s, lostB (e :: l) s = lostB l s := fun s => by rw [lostB_cons]; simp [h3]
    have hown : ∀ p, τ e.t e.r = some p → p.1 = e.s := fun p hp => by
      unfold refuseB at h0
      rw [hp] at h0
      simp only [hk, ownB] at h0
      by_cases hq : p.1 = e.s
      · exact hq
      · simp [hq] at h0
    by_cases hh : hereB t r e = true
    · obtain ⟨rfl, rfl⟩ := hereB_iff.1 hh
      have e1 : act e τ e.t e.r = some (e.s, e.v) := by rw [act_put hk, if_pos hh]
      rw [keepT_some e1]
      by_cases hl : lostB l e.s = true
      · rw [if_pos hl, if_pos ⟨h3, hl⟩]
        cases hx : τ e.t e.r with
        | none => exact (keepT_none hx).symm
        | some p => rw [keepT_some hx, hlc, hown p hx, if_pos hl]
      · rw [if_neg hl, if_neg (fun x => hl x.2), act_put hk, if_pos hh]
    · have e1 : act e τ t r = τ t r := by rw [act_put hk, if_neg hh]
      have e2 : keepT l (act e τ) t r = keepT (e :: l) τ t r := by
        cases hx : τ t r with
        | none => rw [keepT_none (e1.trans hx), keepT_none hx]
        | some p => rw [keepT_some (e1.trans hx), keepT_some hx, hlc]
      rw [e2]
      split
      · rfl
      · rw [act_put hk, if_neg hh]
  · have h3 : e.k ≠ 3 := by omega
    have hlc : ∀ s, lostB (e :: l) s = lostB l s := fun s => by rw [lostB_cons]; simp [h3]
    by_cases hh : (hereB t r e && ownB (τ t r) e.s) = true
    · have e1 : act e τ t r = none := by rw [act_del hk, if_pos hh]
      rw [keepT_none e1]
      simp only [Bool.and_eq_true] at hh
      obtain ⟨h4, h5⟩ := hh
      cases hx : τ t r with
      | none => rw [hx] at h5; cases h5
      | some p =>
        rw [hx] at h5
        have h6 : p.1 = e.s := by simpa [ownB] using h5
        by_cases hl : lostB l e.s = true
        · rw [if_pos ⟨h3, hl⟩, keepT_some hx, hlc, h6, if_pos hl]
        · rw [if_neg (fun x => hl x.2), act_del hk]
          have h7 : keepT (e :: l) τ t r = some p := by rw [keepT_some hx, hlc, h6, if_neg hl]
          rw [h7, h4, h5]
          rfl
    · have e1 : act e τ t r = τ t r := by rw [act_del hk, if_neg hh]
      have e2 : keepT l (act e τ) t r = keepT (e :: l) τ t r := by
        cases hx : τ t r with
        | none => rw [keepT_none (e1.trans hx), keepT_none hx]
        | some p => rw [keepT_some (e1.trans hx), keepT_some hx, hlc]
      rw [e2]
      split
      · rfl
      · rw [act_del hk]
        split
        · rename_i h6
          simp only [Bool.and_eq_true] at h6
          cases hx : τ t r with
          | none => rw [keepT_none hx]
          | some p =>
            have h7 := h6.2
            rw [keepT_some hx] at h7
            split at h7
            · cases h7
            · refine absurd ?_ hh
              rw [hx, h6.1, h7]; rfl
        · rfl
  · rw [if_neg (fun x => x.1 hk), act_gone (by omega) (by omega)]
    cases hx : τ t r with
    | none =>
      have e1 : act e τ t r = none := by rw [act_gone (by omega) (by omega), hx]; rfl
      rw [keepT_none e1, keepT_none hx]; rfl
    | some p =>
      by_cases hp : p.1 = e.s
      · have e1 : act e τ t r = none := by rw [act_gone (by omega) (by omega), hx]; simp [ownB, hp]
        have e2 : keepT (e :: l) τ t r = none := by rw [keepT_some hx, lostB_cons]; simp [hk, hp]
        rw [keepT_none e1, e2]; rfl
      · have e1 : act e τ t r = some p := by rw [act_gone (by omega) (by omega), hx]; simp [ownB, hp]
        have hq : ¬ e.s = p.1 := fun x => hp x.symm
        have e2 : keepT (e :: l) τ t r = if lostB l p.1 = true then none else some p := by rw [keepT_some hx, lostB_cons]; simp [hk, hq]
        rw [keepT_some e1, e2]
        by_cases hl : lostB l p.1 = true
        · simp [hl, ownB]
        · simp [hl, ownB, hp]
/-- Who is not forgotten may do it again where those who are never were. -/
theorem late_free {e : Ev} {l : List Ev} {τ : Tab} (hr : rightB e = true) (h0 : refuseB τ e = 0) (h3 : e.k ≠ 3) (hl : lostB l e.s = false) : refuseB (keepT (e :: l) τ) e = 0 := by
  have hlc : ∀ s, lostB (e :: l) s = lostB l s := fun s => by rw [lostB_cons]; simp [h3]
  unfold refuseB at h0 ⊢
  cases hx : τ e.t e.r with
  | none =>
    rw [keepT_none hx]
    rw [hx] at h0
    exact h0
  | some p =>
    rw [hx] at h0
    rw [keepT_some hx, hlc]
    by_cases hp : p.1 = e.s
    · rw [hp, hl]
      exact h0
    · rcases right_kind hr with hk | hk | hk
      · simp [hk, ownB, hp] at h0
      · simp [hk, ownB, hp] at h0
      · exact absurd hk h3
/-- Of one that is forgotten there is nothing to forget. -/
theorem late_gone {e : Ev} {l : List Ev} {τ : Tab} (hr : rightB e = true) (hk : e.k = 3) : app e (keepT (e :: l) τ) = keepT (e :: l) τ := by
  funext t r
  rw [app_right hr, act_gone (by omega) (by omega)]
  split
  · rename_i h
    cases hx : τ t r with
    | none => rw [keepT_none hx]
    | some p =>
      rw [keepT_some hx] at h ⊢
      by_cases hl : lostB (e :: l) p.1 = true
      · rw [if_pos hl]
      · rw [if_neg hl] at h
        have h6 : p.1 = e.s := by simpa [ownB] using h
        refine absurd ?_ hl
        rw [lostB_cons, h6]
        simp [hk]
  · rfl
end Go.Proofs.YtkbaalenbpgheaaGreatDoor

/- Nothing of it is left, as mathematics: who can't be forgotten; what is behind a Gone. -/
namespace Go.Proofs.YtkbaalenbpgheaaGreatDoor
open Go.RowKit Go.Sort
set_option linter.unusedSectionVars false
variable [Inhabited Cl] [Inhabited Ev]
def zz : ByteArray := ⟨#[122, 122]⟩
/-- The event that forgets; and a new row of that subject. -/
def goneOf (s : ByteArray) : Ev := ⟨3, s, ⟨#[]⟩, ⟨#[]⟩, ⟨#[]⟩⟩
def newOf (s : ByteArray) : Ev := ⟨1, s, zz, zz, ⟨#[]⟩⟩
theorem goneOf_right (s : ByteArray) : rightB (goneOf s) = nameB s.data.toList := by
  unfold rightB bodyB goneOf
  simp
theorem newOf_right (s : ByteArray) : rightB (newOf s) = nameB s.data.toList := by
  have h1 : nameB zz.data.toList = true := by decide
  unfold rightB bodyB newOf
  simp [rowNB, h1]
  intro
  decide
/-- At which place a subject stands last. -/
def lastI (es : List Ev) (s : ByteArray) : Nat → Int
  | 0 => -1
  | n + 1 => if (es.getD n ev0).s = s then (n : Int) else lastI es s n
theorem lastI_app (es : List Ev) (e : Ev) (s : ByteArray) : ∀ n, n ≤ es.length → lastI (es ++ [e]) s n = lastI es s n
  | 0, _ => rfl
  | n + 1, h => by
    have a1 : (es ++ [e]).getD n ev0 = es.getD n ev0 := by simp [List.getD_eq_getElem?_getD, List.getElem?_append_left (show n < es.length by omega)]
    show (if ((es ++ [e]).getD n ev0).s = s then (n : Int) else lastI (es ++ [e]) s n) = (if (es.getD n ev0).s = s then (n : Int) else lastI es s n)
    rw [a1, lastI_app es e s n (by omega)]
theorem lastI_cases (es : List Ev) (s : ByteArray) : ∀ n, n ≤ es.length → (lastI es s n = -1 ∧ ∀ j, j < n → (es.getD j ev0).s ≠ s) ∨ ∃ k : Nat, lastI es s n = (k : Int) ∧ k < n ∧ (es.getD k ev0).s = s
  | 0, _ => .inl ⟨rfl, fun j hj => by omega⟩
  | n + 1, h => by
    show ((if (es.getD n ev0).s = s then (n : Int) else lastI es s n) = -1 ∧ _) ∨ _
    by_cases he : (es.getD n ev0).s = s
    · refine .inr ⟨n, ?_, by omega, he⟩
      show (if (es.getD n ev0).s = s then (n : Int) else lastI es s n) = _
      rw [if_pos he]
    · rcases lastI_cases es s n (by omega) with ⟨a, b⟩ | ⟨k, a, b, c⟩
      · refine .inl ⟨by rw [if_neg he]; exact a, fun j hj => ?_⟩
        by_cases hjn : j = n
        · rw [hjn]; exact he
        · exact b j (by omega)
      · refine .inr ⟨k, ?_, by omega, c⟩
        show (if (es.getD n ev0).s = s then (n : Int) else lastI es s n) = _
        rw [if_neg he]; exact a
/-- Who stood last with anything but a Gone has a key. -/
theorem Did.last {sec : ByteArray} {st : Hst} (h : Did sec st) : ∀ (s : ByteArray) (k : Nat), lastI st.ok s st.ok.length = (k : Int) → (st.ok.getD k ev0).k = 3 ∨ (st.σ s.data.toList).2 = true := by
  refine h.ind (P := fun st => ∀ (s : ByteArray) (k : Nat), lastI st.ok s st.ok.length = (k : Int) → (st.ok.getD k ev0).k = 3 ∨ (st.σ s.data.toList).2 = true) (fun s k hk => by
    have : (-1 : Int) = (k : Int) := hk
    omega) ?_
  intro st e hd ih hdo s k hk
  simp only at hk ⊢
  rw [List.length_append, List.length_singleton] at hk
  have a2 : (st.ok ++ [e]).getD st.ok.length ev0 = e := by simp [List.getD_eq_getElem?_getD]
  have hk2 : (if ((st.ok ++ [e]).getD st.ok.length ev0).s = s then (st.ok.length : Int) else lastI (st.ok ++ [e]) s st.ok.length) = (k : Int) := hk
  rw [a2, lastI_app st.ok e s st.ok.length (Nat.le_refl _)] at hk2
  by_cases he : e.s = s
  · rw [if_pos he] at hk2
    obtain rfl : st.ok.length = k := by omega
    rw [a2]
    by_cases h3 : e.k = 3
    · exact .inl h3
    · refine .inr ?_
      have e2 : tellK st.σ e = made st.σ e.s.data.toList := if_neg h3
      rw [e2, ← he]
      exact (made_self st.σ e.s.data.toList).1
  · rw [if_neg he] at hk2
    have hne : ¬ s.data.toList = e.s.data.toList := fun x => he (ba_eq x).symm
    have e3 : tellK st.σ e s.data.toList = st.σ s.data.toList := by
      unfold tellK
      split
      · unfold gone; rw [if_neg hne]
      · unfold made; rw [if_neg hne]
    rw [e3]
    have hkl : k < st.ok.length := by
      rcases lastI_cases st.ok s st.ok.length (Nat.le_refl _) with ⟨a, _⟩ | ⟨j, a, b, _⟩
      · rw [a] at hk2; omega
      · rw [a] at hk2; omega
    have a1 : (st.ok ++ [e]).getD k ev0 = st.ok.getD k ev0 := by simp [List.getD_eq_getElem?_getD, List.getElem?_append_left hkl]
    rw [a1]
    exact ih s k hk2
theorem any_getD {es : List Ev} {s : ByteArray} : es.any (fun e => decide (e.s = s)) = true ↔ ∃ j, j < es.length ∧ (es.getD j ev0).s = s := by
  rw [List.any_eq_true]
  constructor
  · rintro ⟨e, he, h⟩
    obtain ⟨j, hj, rfl⟩ := List.mem_iff_getElem.1 he
    refine ⟨j, hj, ?_⟩
    rw [List.getD_eq_getElem?_getD, List.getElem?_eq_getElem hj]
    simpa using h
  · rintro ⟨j, hj, h⟩
    exact ⟨_, getD_mem hj, by simpa using h⟩
theorem Did.rights {sec : ByteArray} {st : Hst} (h : Did sec st) {j : Nat} (hj : j < st.ok.length) : rightB (st.ok.getD j ev0) = true := (h.recs.2 j hj).1.right
/-- Who can't be forgotten never had a key, or was forgotten, and told no more. -/
theorem gone_no {sec : ByteArray} {st : Hst} (h : Did sec st) {s : ByteArray} (hd : doesB st.σ st.τ (goneOf s) = false) : st.ok.any (fun e => decide (e.s = s)) = false ∨ (st.ok.any (fun e => decide (e.s = s)) = true ∧ ∃ k : Nat, lastI st.ok s st.ok.length = (k : Int) ∧ k < st.ok.length ∧ (st.ok.getD k ev0).k = 3) := by
  cases ha : st.ok.any (fun e => decide (e.s = s))
  · exact .inl rfl
  · refine .inr ⟨rfl, ?_⟩
    obtain ⟨j, hj, hs⟩ := any_getD.1 ha
    have hn : nameB s.data.toList = true := by
      have := h.rights hj
      unfold rightB at this
      rw [Bool.and_eq_true, hs] at this
      exact this.1
    have hσ : (st.σ s.data.toList).2 = false := by
      unfold doesB at hd
      rw [goneOf_right, hn] at hd
      simpa [refuseB, goneOf] using hd
    rcases lastI_cases st.ok s st.ok.length (Nat.le_refl _) with ⟨_, b⟩ | ⟨k, a, b, _⟩
    · exact absurd hs (b j hj)
    · refine ⟨k, a, b, ?_⟩
      rcases h.last s k a with c | c
      · exact c
      · rw [hσ] at c; cases c
theorem gone_named {σ : Kept} {τ : Tab} {s : ByteArray} (hd : doesB σ τ (goneOf s) = true) : nameB s.data.toList = true := by
  have := (does_parts hd).1
  rw [goneOf_right] at this
  exact this
/-- The rows behind it. -/
theorem InOrd.gone {τ : Tab} {ds : List Cl} {s : ByteArray} (h : InOrd τ ds) (hn : nameB s.data.toList = true) : InOrd (app (goneOf s) τ) (ds.filter fun c => !decide (c.s = s)) := by
  have hr : rightB (goneOf s) = true := by rw [goneOf_right]; exact hn
  refine ⟨h.1.sublist List.filter_sublist, fun c => ?_⟩
  rw [List.mem_filter, h.2, app_right hr, act_gone (by show (3 : Int) ≠ 1; decide) (by show (3 : Int) ≠ 2; decide)]
  cases hx : τ c.t c.r with
  | none => simp [ownB]
  | some p =>
    by_cases hp : p.1 = s
    · have e1 : ownB (some p) (goneOf s).s = true := by simp [ownB, goneOf, hp]
      rw [if_pos e1]
      constructor
      · rintro ⟨a, b⟩
        injection a with a
        rw [a] at hp
        simp at hp
        simp [hp] at b
      · intro a; cases a
    · have e1 : ¬ ownB (some p) (goneOf s).s = true := by simp [ownB, goneOf, hp]
      rw [if_neg e1]
      constructor
      · rintro ⟨a, _⟩; exact a
      · intro a
        refine ⟨a, ?_⟩
        injection a with a
        rw [a] at hp
        simpa using hp
/-- It has no key behind it. -/
theorem gone_key (σ : Kept) (s : ByteArray) : tellK σ (goneOf s) s.data.toList = ((σ s.data.toList).1, false) := by
  have e : tellK σ (goneOf s) = gone σ s.data.toList := if_pos rfl
  rw [e]
  unfold gone
  rw [if_pos rfl]
/-- A new row of it is refused only where there is one. -/
theorem new_no {σ : Kept} {τ : Tab} {s : ByteArray} (hn : nameB s.data.toList = true) (hd : doesB σ τ (newOf s) = false) : ∃ p, τ zz zz = some p := by
  unfold doesB at hd
  rw [newOf_right, hn] at hd
  cases hx : τ zz zz with
  | some p => exact ⟨p, rfl⟩
  | none => simp [refuseB, newOf, hx] at hd
/-- What was sealed of it was sealed by an older key. -/
theorem gone_old {sec : ByteArray} {st : Hst} {s : ByteArray} (h : Did sec (hstep sec st (goneOf s))) (hd : doesB st.σ st.τ (goneOf s) = true) (r : Rec) (hr : r ∈ (hstep sec st (goneOf s)).rs) (hs : r.s = s) : r.g ≤ (st.σ s.data.toList).1 := by
  obtain ⟨hl, hx⟩ := h.recs
  obtain ⟨i, hi, rfl⟩ := List.mem_iff_getElem.1 hr
  have hi2 : i < (hstep sec st (goneOf s)).ok.length := by omega
  have e0 : (hstep sec st (goneOf s)).rs.getD i recZ = (hstep sec st (goneOf s)).rs[i] := by rw [List.getD_eq_getElem?_getD, List.getElem?_eq_getElem hi]; rfl
  obtain ⟨hRO, _, _⟩ := hx i hi2
  rw [e0] at hRO
  generalize (hstep sec st (goneOf s)).rs[i] = r at hRO hs
  by_cases h3 : ((hstep sec st (goneOf s)).ok.getD i ev0).k = 3
  · have := hRO.gen.2 h3
    omega
  · have hok : (hstep sec st (goneOf s)).ok = st.ok ++ [goneOf s] := by rw [hstep_yes hd]
    have hσ : (hstep sec st (goneOf s)).σ = tellK st.σ (goneOf s) := by rw [hstep_yes hd]
    have hi3 : i < st.ok.length := by
      rw [hok, List.length_append, List.length_singleton] at hi2
      by_cases hlt : i < st.ok.length
      · exact hlt
      · have : i = st.ok.length := by omega
        rw [hok, this] at h3
        simp [List.getD_eq_getElem?_getD, goneOf] at h3
    have hlost : lostB ((hstep sec st (goneOf s)).ok.drop (i + 1)) ((hstep sec st (goneOf s)).ok.getD i ev0).s = true := by
      rw [← hRO.sub, hs, hok, List.drop_append_of_le_length (by omega), lostB_snoc]
      simp [goneOf]
    have hle := (hRO.left h3 hlost).1
    rw [hs, hσ, gone_key] at hle
    exact hle
/-- Each of it is lost. -/
theorem gone_lost {sec : ByteArray} {st : Hst} {s : ByteArray} (hd : doesB st.σ st.τ (goneOf s) = true) {i : Nat} (hi : i < st.ok.length) (hs : (st.ok.getD i ev0).s = s) : lostB ((hstep sec st (goneOf s)).ok.drop (i + 1)) ((hstep sec st (goneOf s)).ok.getD i ev0).s = true := by
  have hok : (hstep sec st (goneOf s)).ok = st.ok ++ [goneOf s] := by rw [hstep_yes hd]
  have a1 : (st.ok ++ [goneOf s]).getD i ev0 = st.ok.getD i ev0 := by simp [List.getD_eq_getElem?_getD, List.getElem?_append_left hi]
  rw [hok, a1, hs, List.drop_append_of_le_length (by omega), lostB_snoc]
  simp [goneOf]
end Go.Proofs.YtkbaalenbpgheaaGreatDoor

/- The library's own sorts at this program: the tables of numbers, and what they come to. -/
namespace Go.Proofs.YtkbaalenbpgheaaGreatDoor
open Go.RowKit Go.Shelf Go.Sort
def laysSortS_ren : Go.Shelf.Ren := ⟨fun | 190 => 53 | 125 => 80 | 258 => 79 | 128 => 119 | 129 => 120 | 302 => 110 | 303 => 111 | 304 => 112 | 305 => 113 | 306 => 114 | 307 => 115 | 308 => 116 | 309 => 117 | 310 => 118 | 333 => 146 | 329 => 147 | 330 => 148 | 334 => 149 | 335 => 150 | 336 => 151 | 344 => 173 | n => n, fun | 31 => 50 | 9 => 9 | 3 => 3 | 46 => 111 | 0 => 0 | 51 => 190 | 53 => 192 | 4 => 4 | 183 => 182 | 182 => 181 | 131 => 187 | 5 => 5 | 218 => 230 | 222 => 234 | 228 => 254 | 229 => 255 | n => n, fun | n => n⟩
theorem laysSortS : Go.Proofs.Lays.n190 Tryz.prog laysSortS_ren := {
  mixed := by kernel_rfl
  f125 := Tryz.func80.trans (congrArg some (by kernel_rfl))
  f128 := Tryz.func119.trans (congrArg some (by kernel_rfl))
  f129 := Tryz.func120.trans (congrArg some (by kernel_rfl))
  f190 := Tryz.func53.trans (congrArg some (by kernel_rfl))
  f258 := Tryz.func79.trans (congrArg some (by kernel_rfl))
  f302 := Tryz.func110.trans (congrArg some (by kernel_rfl))
  f303 := Tryz.func111.trans (congrArg some (by kernel_rfl))
  f304 := Tryz.func112.trans (congrArg some (by kernel_rfl))
  f305 := Tryz.func113.trans (congrArg some (by kernel_rfl))
  f306 := Tryz.func114.trans (congrArg some (by kernel_rfl))
  f307 := Tryz.func115.trans (congrArg some (by kernel_rfl))
  f308 := Tryz.func116.trans (congrArg some (by kernel_rfl))
  f309 := Tryz.func117.trans (congrArg some (by kernel_rfl))
  f310 := Tryz.func118.trans (congrArg some (by kernel_rfl))
  f329 := Tryz.func147.trans (congrArg some (by kernel_rfl))
  f330 := Tryz.func148.trans (congrArg some (by kernel_rfl))
  f333 := Tryz.func146.trans (congrArg some (by kernel_rfl))
  f334 := Tryz.func149.trans (congrArg some (by kernel_rfl))
  f335 := Tryz.func150.trans (congrArg some (by kernel_rfl))
  f336 := Tryz.func151.trans (congrArg some (by kernel_rfl))
  f344 := Tryz.func173.trans (congrArg some (by kernel_rfl))
  t0 := Tryz.underlying0
  a0 := Tryz.isAgg0
  z0 := Tryz.sizeOf0
  v0 := Tryz.zeroValue0
  t3 := Tryz.underlying3
  a3 := Tryz.isAgg3
  z3 := Tryz.sizeOf3
  v3 := Tryz.zeroValue3
  t4 := Tryz.underlying4
  a4 := Tryz.isAgg4
  z4 := Tryz.sizeOf4
  v4 := Tryz.zeroValue4
  t5 := Tryz.underlying5
  a5 := Tryz.isAgg5
  z5 := Tryz.sizeOf5
  v5 := Tryz.zeroValue5
  t9 := Tryz.underlying9
  a9 := Tryz.isAgg9
  z9 := Tryz.sizeOf9
  v9 := Tryz.zeroValue9
  t31 := Tryz.underlying50
  a31 := Tryz.isAgg50
  z31 := Tryz.sizeOf50
  v31 := Tryz.zeroValue50
  t46 := Tryz.underlying111
  a46 := Tryz.isAgg111
  z46 := Tryz.sizeOf111
  v46 := Tryz.zeroValue111
  t51 := Tryz.underlying190
  a51 := Tryz.isAgg190
  z51 := Tryz.sizeOf190
  v51 := Tryz.zeroValue190
  t53 := Tryz.underlying192
  a53 := Tryz.isAgg192
  z53 := Tryz.sizeOf192
  v53 := Tryz.zeroValue192
  t131 := Tryz.underlying187
  a131 := Tryz.isAgg187
  z131 := Tryz.sizeOf187
  v131 := Tryz.zeroValue187
  t182 := Tryz.underlying181
  a182 := Tryz.isAgg181
  z182 := Tryz.sizeOf181
  v182 := Tryz.zeroValue181
  t183 := Tryz.underlying182
  a183 := Tryz.isAgg182
  z183 := Tryz.sizeOf182
  v183 := Tryz.zeroValue182
  t218 := Tryz.underlying230
  a218 := Tryz.isAgg230
  z218 := Tryz.sizeOf230
  v218 := Tryz.zeroValue230
  t222 := Tryz.underlying234
  a222 := Tryz.isAgg234
  z222 := Tryz.sizeOf234
  v222 := Tryz.zeroValue234
  t228 := Tryz.underlying254
  a228 := Tryz.isAgg254
  z228 := Tryz.sizeOf254
  v228 := Tryz.zeroValue254
  t229 := Tryz.underlying255
  a229 := Tryz.isAgg255
  z229 := Tryz.sizeOf255
  v229 := Tryz.zeroValue255 }
theorem renSortS : laysSortS_ren.f 190 = 53 := by kernel_rfl
/-- slices.Sort of a row of texts. -/
theorem sortS_any (g cap : Nat) (ss : List (List UInt8)) (w : World) (hH : Holds encStr w g 0 ss.toArray) (hg : g < w.heap.size) (hs : ss.length < 4611686018427387904) :
    Calls Tryz.prog 53 #[.slice (some ⟨g, 0, none⟩) ss.length cap] w fun e w' => e = .returned (.tuple #[]) ∧ ∃ n os, w' = grow (putRow encStr (Sort.ahead w n) g 0 (ss.mergeSort fun x y => decide (x ≤ y)).toArray) os := by
  have h := Any.slices_Sort_string laysSortS g 0 cap ss w hH hg hs
  rw [renSortS] at h
  exact h
theorem sortS_none (p : Option Addr) (cap : Nat) (w : World) : Calls Tryz.prog 53 #[.slice p 0 cap] w fun e w' => e = .returned (.tuple #[]) ∧ w' = w := by
  have h := Any.slices_Sort_string_none laysSortS p cap w
  rw [renSortS] at h
  exact h
end Go.Proofs.YtkbaalenbpgheaaGreatDoor
