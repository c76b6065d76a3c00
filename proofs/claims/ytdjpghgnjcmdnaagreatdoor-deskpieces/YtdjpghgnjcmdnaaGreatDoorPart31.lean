/- Texts of this proof, one behind the other. -/
import Derived.Deep.RegionHeld3
import Derived.Deep.DrawnRows
import Derived.Deep.RegionLaw
import Derived.Test.YtdjpghgnjcmdnaaGreatDoorPart30
/- A reader that goes on when more has happened, as mathematics; and rows that are put one by one. -/
namespace Go.Proofs.YtdjpghgnjcmdnaaGreatDoor
open Go.RowKit Go.Sort
set_option linter.unusedSectionVars false
variable [Inhabited Cl] [Inhabited Ev]
/-- What is read leaves of a table the rows of those who are not forgotten, whatever the table. -/
theorem late_goes {e : Ev} {l : List Ev} {τ : Tab} (hr : rightB e = true) (hn : ¬ (e.k ≠ 3 ∧ lostB l e.s = true)) : keepT l (app e τ) = app e (keepT (e :: l) τ) := by
  funext t r
  rw [app_right hr, app_right hr]
  rcases right_kind hr with hk | hk | hk
  · have h3 : e.k ≠ 3 := by omega
    have hl : ¬ lostB l e.s = true := fun x => hn ⟨h3, x⟩
    have hlc : ∀ s, lostB (e :: l) s = lostB l s := fun s => by rw [lostB_cons]; simp [h3]
    by_cases hh : hereB t r e = true
    · have e1 : act e τ t r = some (e.s, e.v) := by rw [act_put hk, if_pos hh]
      rw [keepT_some e1, if_neg hl, act_put hk, if_pos hh]
    · have e1 : act e τ t r = τ t r := by rw [act_put hk, if_neg hh]
      rw [act_put hk, if_neg hh]
      cases hx : τ t r with
      | none => rw [keepT_none (e1.trans hx), keepT_none hx]
      | some p => rw [keepT_some (e1.trans hx), keepT_some hx, hlc]
  · have h3 : e.k ≠ 3 := by omega
    have hl : ¬ lostB l e.s = true := fun x => hn ⟨h3, x⟩
    have hlc : ∀ s, lostB (e :: l) s = lostB l s := fun s => by rw [lostB_cons]; simp [h3]
    rw [act_del hk]
    cases hx : τ t r with
    | none =>
      have e1 : act e τ t r = none := by rw [act_del hk, hx]; simp
      rw [keepT_none e1, keepT_none hx]; simp
    | some p =>
      by_cases hh : hereB t r e = true
      · by_cases hp : p.1 = e.s
        · have e1 : act e τ t r = none := by rw [act_del hk, hx]; simp [hh, ownB, hp]
          rw [keepT_none e1, keepT_some hx, hlc, hp, if_neg hl]
          simp [hh, ownB, hp]
        · have e1 : act e τ t r = some p := by rw [act_del hk, hx]; simp [ownB, hp]
          rw [keepT_some e1, keepT_some hx, hlc]
          by_cases hq : lostB l p.1 = true
          · simp [hq]
          · simp [hq, ownB, hp]
      · have e1 : act e τ t r = some p := by rw [act_del hk, hx]; simp [hh]
        rw [keepT_some e1, keepT_some hx, hlc]
        simp [hh]
  · rw [act_gone (by omega) (by omega)]
    cases hx : τ t r with
    | none =>
      have e1 : act e τ t r = none := by rw [act_gone (by omega) (by omega), hx]; rfl
      rw [keepT_none e1, keepT_none hx]; rfl
    | some p =>
      by_cases hp : p.1 = e.s
      · have e1 : act e τ t r = none := by rw [act_gone (by omega) (by omega), hx]; simp [ownB, hp]
        have e2 : keepT (e :: l) τ t r = none := by rw [keepT_some hx, lostB_cons]; simp [hk, hp]
        rw [keepT_none e1, e2]; rfl
      · have e1 : act e τ t r = some p := by rw [act_gone (by omega) (by omega), hx]; simp [ownB, hp]
        have hq : ¬ e.s = p.1 := fun x => hp x.symm
        have e2 : keepT (e :: l) τ t r = if lostB l p.1 = true then none else some p := by rw [keepT_some hx, lostB_cons]; simp [hk, hq]
        rw [keepT_some e1, e2]
        by_cases hl : lostB l p.1 = true
        · simp [hl, ownB]
        · simp [hl, ownB, hp]
theorem late_stays {e : Ev} {l : List Ev} {τ : Tab} (h3 : e.k ≠ 3) : keepT (e :: l) τ = keepT l τ := by
  funext t r
  have hlc : ∀ s, lostB (e :: l) s = lostB l s := fun s => by rw [lostB_cons]; simp [h3]
  cases hx : τ t r with
  | none => rw [keepT_none hx, keepT_none hx]
  | some p => rw [keepT_some hx, keepT_some hx, hlc]
theorem keepT_more {l m : List Ev} {τ : Tab} : keepT (l ++ m) (keepT l τ) = keepT (l ++ m) τ := by
  funext t r
  have ha : ∀ s, lostB (l ++ m) s = (lostB l s || lostB m s) := fun s => by unfold lostB; rw [List.any_append]
  cases hx : τ t r with
  | none => rw [keepT_none (keepT_none hx), keepT_none hx]
  | some p =>
    by_cases hl : lostB l p.1 = true
    · have e1 : keepT l τ t r = none := by rw [keepT_some hx, if_pos hl]
      rw [keepT_none e1, keepT_some hx, ha, hl]; rfl
    · have e1 : keepT l τ t r = some p := by rw [keepT_some hx, if_neg hl]
      rw [keepT_some e1, keepT_some hx]
/-- What a reader has that read k records, and then j more of what is there by now. -/
def goesT (ok : List Ev) (k : Nat) (τ : Tab) : Nat → Tab
  | 0 => τ
  | j + 1 => if lossB ok (k + j) = true then goesT ok k τ j else app (ok.getD (k + j) ev0) (goesT ok k τ j)
/-- How many are lost to it. -/
def goesN (ok : List Ev) (k n : Nat) : Nat → Nat
  | 0 => n
  | j + 1 => if lossB ok (k + j) = true then goesN ok k n j + 1 else goesN ok k n j
theorem goesN_le (ok : List Ev) (k n : Nat) : ∀ j, goesN ok k n j ≤ n + j
  | 0 => Nat.le_refl _
  | j + 1 => by
    have := goesN_le ok k n j
    show (if lossB ok (k + j) = true then goesN ok k n j + 1 else goesN ok k n j) ≤ n + (j + 1)
    split <;> omega
theorem goes_keep {sec : ByteArray} {s : Hst} (h : Did sec s) {k : Nat} {τ : Tab} (h0 : keepT (s.ok.drop k) τ = lateT s.ok k) : ∀ j, k + j ≤ s.ok.length → keepT (s.ok.drop (k + j)) (goesT s.ok k τ j) = lateT s.ok (k + j)
  | 0, _ => h0
  | j + 1, hj => by
    have ih := goes_keep h h0 j (by omega)
    have hk : k + j < s.ok.length := by omega
    rw [drop_cons hk] at ih
    show keepT (s.ok.drop (k + j + 1)) (if lossB s.ok (k + j) = true then goesT s.ok k τ j else app (s.ok.getD (k + j) ev0) (goesT s.ok k τ j)) = lateT s.ok (k + j + 1)
    rw [lateT_step h hk]
    by_cases hl : lossB s.ok (k + j) = true
    · rw [if_pos hl, if_pos (lossB_iff.1 hl), ← ih, late_stays (lossB_iff.1 hl).1]
    · have hn : ¬ ((s.ok.getD (k + j) ev0).k ≠ 3 ∧ lostB (s.ok.drop (k + j + 1)) (s.ok.getD (k + j) ev0).s = true) := fun x => hl (lossB_iff.2 x)
      rw [if_neg hl, if_neg hn, late_goes (h.free _ hk).1 hn, ih]
/-- At last it has what there is. -/
theorem goes_end {sec : ByteArray} {s s' : Hst} (h' : Did sec s') {k : Nat} (hk : k ≤ s.ok.length) {mo : List Ev} (hm : s'.ok = s.ok ++ mo) : goesT s'.ok k (lateT s.ok k) (s'.ok.length - k) = s'.τ := by
  have hl : s'.ok.length = s.ok.length + mo.length := by rw [hm, List.length_append]
  have h0 : keepT (s'.ok.drop k) (lateT s.ok k) = lateT s'.ok k := by
    have e1 : s'.ok.drop k = s.ok.drop k ++ mo := by rw [hm, List.drop_append_of_le_length hk]
    have e2 : s'.ok.take k = s.ok.take k := by rw [hm, List.take_append_of_le_length hk]
    unfold lateT
    rw [e1, e2, keepT_more]
  have h1 := goes_keep h' h0 (s'.ok.length - k) (by omega)
  rw [show k + (s'.ok.length - k) = s'.ok.length by omega, List.drop_length, keepT_nil, lateT_end] at h1
  rw [h1, h'.tau]
/-- A cell as the event that leaves it. -/
def evOfC (c : Cl) : Ev := ⟨1, c.s, c.t, c.r, c.v⟩
/-- Each row was put. -/
theorem runs_put : ∀ (l : List Ev) (τ : Tab) (t r : ByteArray) (p : ByteArray × ByteArray), runs l τ t r = some p → τ t r = some p ∨ ∃ e ∈ l, rightB e = true ∧ e = ⟨1, p.1, t, r, p.2⟩
  | [], _, _, _, _, h => .inl h
  | e :: l, τ, t, r, p, h => by
    rw [runs_cons] at h
    rcases runs_put l (app e τ) t r p h with h1 | ⟨f, hf, a⟩
    · cases hr : rightB e
      · rw [app_wrong hr] at h1; exact .inl h1
      · rw [app_right hr] at h1
        rcases right_kind hr with hk | hk | hk
        · rw [act_put hk] at h1
          by_cases hh : hereB t r e = true
          · rw [if_pos hh] at h1
            obtain ⟨rfl, rfl⟩ := hereB_iff.1 hh
            injection h1 with h1
            subst h1
            refine .inr ⟨e, List.mem_cons_self, hr, ?_⟩
            cases e
            simp only at hk
            subst hk
            rfl
          · rw [if_neg hh] at h1; exact .inl h1
        · rw [act_del hk] at h1
          split at h1
          · cases h1
          · exact .inl h1
        · rw [act_gone (by omega) (by omega)] at h1
          split at h1
          · cases h1
          · exact .inl h1
    · exact .inr ⟨f, List.mem_cons_of_mem _ hf, a⟩
theorem late_put {ok : List Ev} {k : Nat} {c : Cl} (h : lateT ok k c.t c.r = some (c.s, c.v)) : evOfC c ∈ ok ∧ rightB (evOfC c) = true := by
  have h1 : runs (ok.take k) tab0 c.t c.r = some (c.s, c.v) := by
    unfold lateT at h
    cases hx : runs (ok.take k) tab0 c.t c.r with
    | none => rw [keepT_none hx] at h; cases h
    | some p =>
      rw [keepT_some hx] at h
      split at h
      · cases h
      · exact h
  rcases runs_put _ _ _ _ _ h1 with h2 | ⟨e, he, hr, rfl⟩
  · cases h2
  · exact ⟨List.mem_of_mem_take he, hr⟩
/-- Rows that are put one by one, in order. -/
def putsT (ds : List Cl) : Tab := runs (ds.map evOfC) tab0
theorem putsT_snoc (ds : List Cl) (c : Cl) : putsT (ds ++ [c]) = app (evOfC c) (putsT ds) := by
  unfold putsT
  rw [List.map_append, List.map_singleton, runs_snoc]
theorem putsT_has : ∀ (ds : List Cl), (∀ c ∈ ds, rightB (evOfC c) = true) → ds.Pairwise (fun a b => ltC a b = true) → ∀ t r p, runs (ds.map evOfC) tab0 t r = some p ↔ ⟨t, r, p.1, p.2⟩ ∈ ds := by
  intro ds hr hp t r p
  constructor
  · intro h
    rcases runs_put _ _ _ _ _ h with h2 | ⟨e, he, _, rfl⟩
    · cases h2
    · obtain ⟨c, hc, e1⟩ := List.mem_map.1 he
      unfold evOfC at e1
      simp only [Ev.mk.injEq, true_and] at e1
      obtain ⟨a, b, d, f⟩ := e1
      rw [← a, ← b, ← d, ← f]
      exact hc
  · have gen : ∀ (ds : List Cl) (τ : Tab), (∀ c ∈ ds, rightB (evOfC c) = true) → ds.Pairwise (fun a b => ltC a b = true) → (⟨t, r, p.1, p.2⟩ : Cl) ∈ ds → runs (ds.map evOfC) τ t r = some p := by
      intro ds
      induction ds with
      | nil => intro τ _ _ h; cases h
      | cons c cs ih =>
        intro τ hr hp hm
        rw [List.map_cons, runs_cons]
        have hp2 := List.pairwise_cons.1 hp
        rcases List.mem_cons.1 hm with h1 | h1
        · have stay : ∀ (l : List Cl) (τ : Tab), (∀ d ∈ l, ltC c d = true) → τ t r = some p → runs (l.map evOfC) τ t r = some p := by
            intro l
            induction l with
            | nil => intro τ _ h; exact h
            | cons d l ih2 =>
              intro τ hl h
              rw [List.map_cons, runs_cons]
              refine ih2 _ (fun x hx => hl x (List.mem_cons_of_mem _ hx)) ?_
              cases hrd : rightB (evOfC d)
              · rw [app_wrong hrd]; exact h
              · rw [app_right hrd, act_put rfl, if_neg, h]
                intro hh
                obtain ⟨a, b⟩ := hereB_iff.1 hh
                have hlt := hl d List.mem_cons_self
                have ec1 : c.t = d.t := by rw [← h1]; exact a
                have ec2 : c.r = d.r := by rw [← h1]; exact b
                rw [ltC_iff] at hlt
                have hirr := ltC_irrefl c
                rw [Bool.eq_false_iff] at hirr
                refine hirr ((ltC_iff c c).2 ?_)
                rcases hlt with q | ⟨_, q⟩
                · exact .inl (by rw [← ec1] at q; exact q)
                · exact .inr ⟨rfl, by rw [← ec2] at q; exact q⟩
          refine stay cs _ hp2.1 ?_
          rw [app_right (hr c List.mem_cons_self), act_put rfl, if_pos (hereB_iff.2 (by rw [← h1]; exact ⟨rfl, rfl⟩)), ← h1]
          rfl
        · exact ih _ (fun d hd => hr d (List.mem_cons_of_mem _ hd)) hp2.2 h1
    exact gen ds tab0 hr hp
/-- They are the table that they came of. -/
theorem putsT_eq {τ : Tab} {ds : List Cl} (h : InOrd τ ds) (hr : ∀ c ∈ ds, rightB (evOfC c) = true) : putsT ds = τ := by
  funext t r
  have h1 := fun p => putsT_has ds hr h.1 t r p
  have h2 := fun p : ByteArray × ByteArray => h.2 ⟨t, r, p.1, p.2⟩
  cases hx : τ t r with
  | some p => exact (h1 p).2 ((h2 p).2 hx)
  | none =>
    cases hy : putsT ds t r with
    | none => rfl
    | some p =>
      have := (h2 p).1 ((h1 p).1 hy)
      simp only at this
      rw [hx] at this
      cases this
end Go.Proofs.YtdjpghgnjcmdnaaGreatDoor

/- Records as bytes, as mathematics: what is written, what is cut, and that what is written is cut as it was. -/
namespace Go.Proofs.YtdjpghgnjcmdnaaGreatDoor
open Go.RowKit
/-- Bytes as a text. -/
def tx (l : List UInt8) : ByteArray := ⟨l.toArray⟩
theorem tx_size (l : List UInt8) : (tx l).size = l.length := rfl
theorem tx_list (l : List UInt8) : (tx l).data.toList = l := rfl
theorem tx_of (b : ByteArray) : tx b.data.toList = b := rfl
theorem tx_inj {l m : List UInt8} (h : tx l = tx m) : l = m := by
  have := congrArg (fun b : ByteArray => b.data.toList) h
  exact this
/-- What bytes tell, the greatest first. -/
def numL (l : List UInt8) : Nat := l.foldl (fun n c => n * 256 + c.toNat) 0
/-- A record that may be written. -/
structure RightR (r : Rec) : Prop where
  q1 : 1 ≤ r.q
  q2 : r.q ≤ 100
  s : nameB r.s.data.toList = true
  g : r.g ≤ 100
  p : r.p.size = 16
  d : r.d.size ≤ 416
def u8 (n : Nat) : UInt8 := UInt8.ofNat n
theorem u8_nat {n : Nat} (h : n < 256) : (u8 n).toNat = n := by
  unfold u8
  simp
  omega
def sizeL (n : Nat) : List UInt8 := [u8 (n / 256), u8 (n % 256)]
theorem num_one {n : Nat} (h : n < 256) : numL [u8 n] = n := by
  show 0 * 256 + (u8 n).toNat = n
  rw [u8_nat h]; omega
theorem num_two {n : Nat} (h : n < 65536) : numL (sizeL n) = n := by
  show (0 * 256 + (u8 (n / 256)).toNat) * 256 + (u8 (n % 256)).toNat = n
  rw [u8_nat (by omega), u8_nat (by omega)]; omega
/-- A record's bytes. -/
def wireL (r : Rec) : List UInt8 := (markR r).data.toList ++ (u8 r.q :: u8 r.s.size :: (r.s.data.toList ++ (u8 r.g :: (r.p.data.toList ++ (sizeL r.d.size ++ r.d.data.toList)))))
theorem wireL_len (r : Rec) : (wireL r).length = 37 - 16 + r.s.size + r.p.size + r.d.size := by
  have h1 : (markR r).data.toList.length = 16 := markR_size r
  have h2 : r.s.data.toList.length = r.s.size := rfl
  have h3 : r.p.data.toList.length = r.p.size := rfl
  have h4 : r.d.data.toList.length = r.d.size := rfl
  unfold wireL sizeL
  simp only [List.length_append, List.length_cons, List.length_nil, h1, h2, h3, h4]
  omega
/-- Bytes taken for a record's parts, as far as they reach. -/
def cutL (l : List UInt8) : Rec :=
  let l1 := l.drop 16
  let l2 := l1.drop 1
  let l3 := l2.drop 1
  let n := numL (l2.take 1)
  let l4 := l3.drop n
  let l5 := l4.drop 1
  let l6 := l5.drop 16
  let l7 := l6.drop 2
  ⟨numL (l1.take 1), tx (l3.take n), numL (l4.take 1), tx (l5.take 16), tx (l7.take (numL (l6.take 2)))⟩
theorem drop_app {a b : List UInt8} {n : Nat} (h : a.length = n) : (a ++ b).drop n = b := by
  rw [← h]; exact List.drop_left
theorem take_app {a b : List UInt8} {n : Nat} (h : a.length = n) : (a ++ b).take n = a := by
  rw [← h]; exact List.take_left
theorem nameB_len {s : ByteArray} (h : nameB s.data.toList = true) : s.size ≤ 10 := by
  unfold nameB at h
  simp at h
  have h2 : s.data.toList.length = s.size := rfl
  have h3 : s.data.size = s.size := rfl
  omega
theorem drop_one (x : UInt8) (l : List UInt8) : (x :: l).drop 1 = l := rfl
theorem take_one (x : UInt8) (l : List UInt8) : (x :: l).take 1 = [x] := rfl
/-- What is written is cut as it was, whatever stands behind it. -/
theorem cut_wire {r : Rec} (h : RightR r) (more : List UInt8) : cutL (wireL r ++ more) = r := by
  have hm : (markR r).data.toList.length = 16 := markR_size r
  have hs := nameB_len h.s
  have e0 : wireL r ++ more = (markR r).data.toList ++ (u8 r.q :: u8 r.s.size :: (r.s.data.toList ++ (u8 r.g :: (r.p.data.toList ++ (sizeL r.d.size ++ (r.d.data.toList ++ more)))))) := by
    unfold wireL
    simp only [List.append_assoc, List.cons_append]
  unfold cutL
  rw [e0]
  simp only
  rw [drop_app hm]
  simp only [drop_one, take_one]
  rw [num_one (n := r.q) (by have := h.q2; omega), num_one (n := r.s.size) (by omega)]
  rw [drop_app (a := r.s.data.toList) (n := r.s.size) rfl, take_app (a := r.s.data.toList) (n := r.s.size) rfl]
  simp only [drop_one, take_one]
  rw [num_one (n := r.g) (by have := h.g; omega)]
  rw [drop_app (a := r.p.data.toList) (n := 16) h.p, take_app (a := r.p.data.toList) (n := 16) h.p]
  rw [drop_app (a := sizeL r.d.size) (n := 2) rfl, take_app (a := sizeL r.d.size) (n := 2) rfl, num_two (by have := h.d; omega)]
  rw [take_app (a := r.d.data.toList) (n := r.d.size) rfl]
  rfl
/-- May it be written? -/
def rightI (q : Int) (s : ByteArray) (g : Int) (p d : ByteArray) : Bool := decide (1 ≤ q) && (decide (q ≤ 100) && (nameB s.data.toList && (decide (0 ≤ g) && (decide (g ≤ 100) && (decide (p.size = 16) && decide (d.size ≤ 416))))))
def rightRB (r : Rec) : Bool := rightI r.q r.s r.g r.p r.d
theorem rightRB_iff {r : Rec} : rightRB r = true ↔ RightR r := by
  unfold rightRB rightI
  simp only [Bool.and_eq_true, decide_eq_true_eq]
  constructor
  · rintro ⟨a, b, c, d, e, f, g⟩
    exact ⟨by omega, by omega, c, by omega, f, g⟩
  · rintro ⟨a, b, c, d, e, f⟩
    exact ⟨by omega, by omega, c, by omega, by omega, e, f⟩
/-- The record that bytes begin with, where they begin with one. -/
def firstL (l : List UInt8) : Option Rec := if rightRB (cutL l) = true ∧ wireL (cutL l) <+: l then some (cutL l) else none
theorem first_wire {r : Rec} (h : RightR r) (more : List UInt8) : firstL (wireL r ++ more) = some r := by
  unfold firstL
  rw [cut_wire h, if_pos ⟨rightRB_iff.2 h, List.prefix_append _ _⟩]
theorem first_some {l : List UInt8} {r : Rec} (h : firstL l = some r) : RightR r ∧ ∃ more, l = wireL r ++ more := by
  unfold firstL at h
  split at h
  · rename_i h1
    injection h with h
    rw [h] at h1
    obtain ⟨more, hm⟩ := h1.2
    exact ⟨rightRB_iff.1 h1.1, more, hm.symm⟩
  · cases h
theorem wireL_ne (r : Rec) : 0 < (wireL r).length := by rw [wireL_len]; omega
theorem first_nil : firstL [] = none := by
  cases h : firstL [] with
  | none => rfl
  | some r =>
    obtain ⟨_, more, hm⟩ := first_some h
    have := congrArg List.length hm
    have := wireL_ne r
    rw [List.length_append, List.length_nil] at *
    omega
/-- Records, one behind the other. -/
def wiresL (rs : List Rec) : List UInt8 := rs.flatMap wireL
theorem wiresL_snoc (rs : List Rec) (r : Rec) : wiresL (rs ++ [r]) = wiresL rs ++ wireL r := by simp [wiresL]
theorem wiresL_cons (r : Rec) (rs : List Rec) : wiresL (r :: rs) = wireL r ++ wiresL rs := by simp [wiresL]
/-- Just these records stand there wholly, one behind the other. -/
structure AllAt (l : List UInt8) (rs : List Rec) : Prop where
  right : ∀ r ∈ rs, RightR r
  rest : ∃ tl, l = wiresL rs ++ tl ∧ firstL tl = none
theorem AllAt.eq : ∀ {l : List UInt8} {rs rs' : List Rec}, AllAt l rs → AllAt l rs' → rs = rs'
  | l, [], [], _, _ => rfl
  | l, [], r :: rs, h, h' => by
    obtain ⟨tl, e, hf⟩ := h.rest
    obtain ⟨tl', e', _⟩ := h'.rest
    have e1 : l = tl := e
    rw [← e1, e', wiresL_cons, List.append_assoc, first_wire (h'.right r List.mem_cons_self)] at hf
    cases hf
  | l, r :: rs, [], h, h' => by
    obtain ⟨tl, e, hf⟩ := h'.rest
    obtain ⟨tl', e', _⟩ := h.rest
    have e1 : l = tl := e
    rw [← e1, e', wiresL_cons, List.append_assoc, first_wire (h.right r List.mem_cons_self)] at hf
    cases hf
  | l, r :: rs, r' :: rs', h, h' => by
    obtain ⟨tl, e, hf⟩ := h.rest
    obtain ⟨tl', e', hf'⟩ := h'.rest
    have h1 := first_wire (h.right r List.mem_cons_self) (wiresL rs ++ tl)
    have h2 := first_wire (h'.right r' List.mem_cons_self) (wiresL rs' ++ tl')
    rw [wiresL_cons, List.append_assoc] at e e'
    have h3 : r' = r := by
      rw [← e, e', h2] at h1
      exact Option.some.inj h1
    subst h3
    rw [e] at e'
    have e2 := List.append_cancel_left e'
    have := AllAt.eq (l := wiresL rs ++ tl) ⟨fun x hx => h.right x (List.mem_cons_of_mem _ hx), tl, rfl, hf⟩ ⟨fun x hx => h'.right x (List.mem_cons_of_mem _ hx), tl', e2, hf'⟩
    rw [this]
end Go.Proofs.YtdjpghgnjcmdnaaGreatDoor

/- Bytes written as digits: what the program's own 'Hex' comes to. -/
namespace Go.Proofs.YtdjpghgnjcmdnaaGreatDoor
open Go.RowKit
attribute [local go_sem ↓] Go.wp_at_zero Go.wp_at_succ
/-- A digit. -/
def hxd (n : Nat) : UInt8 := if n < 10 then UInt8.ofNat (48 + n) else UInt8.ofNat (87 + n)
/-- The digits of bytes. -/
def hexL (l : List UInt8) : List UInt8 := l.flatMap fun c => [hxd (c.toNat / 16), hxd (c.toNat % 16)]
def digs : ByteArray := ⟨#[48, 49, 50, 51, 52, 53, 54, 55, 56, 57, 97, 98, 99, 100, 101, 102]⟩
theorem idx16 : ∀ (n : Nat) (_h : n < 16) (w : World), (Instr.index 9 (.string ⟨#[48, 49, 50, 51, 52, 53, 54, 55, 56, 57, 97, 98, 99, 100, 101, 102]⟩) (.int .u8 (n : Int))).run Tryz.prog w = .ok (.int .u8 ((hxd n).toNat : Int)) w
  | 0, _ => fun _ => by kernel_rfl
  | 1, _ => fun _ => by kernel_rfl
  | 2, _ => fun _ => by kernel_rfl
  | 3, _ => fun _ => by kernel_rfl
  | 4, _ => fun _ => by kernel_rfl
  | 5, _ => fun _ => by kernel_rfl
  | 6, _ => fun _ => by kernel_rfl
  | 7, _ => fun _ => by kernel_rfl
  | 8, _ => fun _ => by kernel_rfl
  | 9, _ => fun _ => by kernel_rfl
  | 10, _ => fun _ => by kernel_rfl
  | 11, _ => fun _ => by kernel_rfl
  | 12, _ => fun _ => by kernel_rfl
  | 13, _ => fun _ => by kernel_rfl
  | 14, _ => fun _ => by kernel_rfl
  | 15, _ => fun _ => by kernel_rfl
  | n + 16, h => absurd h (by omega)
theorem byte_hi (c : UInt8) (w : World) : (Instr.index 9 (.string ⟨#[48, 49, 50, 51, 52, 53, 54, 55, 56, 57, 97, 98, 99, 100, 101, 102]⟩) (.int .u8 ((c.toNat : Int) / 16))).run Tryz.prog w = .ok (.int .u8 ((hxd (c.toNat / 16)).toNat : Int)) w := by
  have h := idx16 (c.toNat / 16) (by have := c.toNat_lt; omega) w
  rwa [Int.natCast_ediv] at h
theorem byte_and (c : UInt8) : bits .and .u8 (c.toNat : Int) 15 = ((c.toNat % 16 : Nat) : Int) := by
  have h := u8_and_nat c.toNat 15 c.toNat_lt (by omega)
  rw [nat_mask4] at h
  exact h
theorem byte_lo (c : UInt8) (w : World) : (Instr.index 9 (.string ⟨#[48, 49, 50, 51, 52, 53, 54, 55, 56, 57, 97, 98, 99, 100, 101, 102]⟩) (.int .u8 (bits .and .u8 (c.toNat : Int) 15))).run Tryz.prog w = .ok (.int .u8 ((hxd (c.toNat % 16)).toNat : Int)) w := by
  rw [byte_and]
  exact idx16 (c.toNat % 16) (by omega) w
theorem two_u8 (a b : Int) : ∀ u ∈ [Value.int .u8 a, .int .u8 b], u.oneCell' = true := by
  intro u hu
  simp at hu
  rcases hu with rfl | rfl <;> rfl
theorem bytes_two (l : List UInt8) (x y : UInt8) : bytesV l ++ [Value.int .u8 (x.toNat : Int), .int .u8 (y.toNat : Int)] = bytesV (l ++ [x, y]) := by
  simp [bytesV]
theorem BR.of_owns' {w : World} {base : Nat} {e : TypeId} {g n cap : Nat} {xs : List Value} (h : w.ownsRow base e 1 (.slice (some ⟨g, 0, none⟩) n cap) n xs) : BR w base e g n cap xs := by
  obtain ⟨hl, h2⟩ := h
  rcases h2 with ⟨h0, _⟩ | ⟨g', cap', cur, hv, hb, hg, hle, _, hs, ht⟩
  · simp at h0
  · simp only [Nat.mul_one] at hl hs ht
    simp only [Value.slice.injEq, Option.some.injEq, Addr.mk.injEq, and_true, true_and] at hv
    obtain ⟨rfl, rfl⟩ := hv
    exact ⟨hl, hb, hle, cur, (0, 0), hg, hs, ht, .inl (Nat.le_refl _)⟩
theorem hexL_step (l : List UInt8) (k : Nat) (h : k < l.length) : hexL (l.take k) ++ [hxd (l[k].toNat / 16), hxd (l[k].toNat % 16)] = hexL (l.take (k + 1)) := by
  rw [List.take_succ_eq_append_getElem h]
  unfold hexL
  rw [List.flatMap_append]
  simp
set_option maxRecDepth 100000 in
set_option maxHeartbeats 400000 in
theorem hex_any (s : ByteArray) (w : World) (hs : s.size ≤ 100000) :
    Calls Tryz.prog 57 #[.string s] w fun e w' => e = .returned (.string ⟨(hexL s.data.toList).toArray⟩) ∧ Below w.heap.size w w' := by
  obtain ⟨i5, hE⟩ := elemB
  go_enter Tryz.func57, Tryz.ntmps57
  go_wp2_with (at_make; refine wpList_make_own _ rfl _ _ 38 rfl w.heap.size 5 i5 (.int .u8 0) 1 hE.ht hE.hi hE.hz hE.hs .i64 .i64 _ (2 * s.size) rfl rfl (by omega) (by rw [hE.hb]; omega) (by unfold maxLen; omega) (Nat.le_refl _) ?_; intro w1 ho1 hg1)
  go_loopw [3, 11] (fun t i wr => ∃ k g cap : Nat, k ≤ s.size ∧ i = .int .i64 k ∧ t = .slice (some ⟨g, 0, none⟩) (2 * k) cap ∧ wr.ownsRow w.heap.size 5 1 t (2 * k) (bytesV (hexL (s.data.toList.take k))) ∧ Below w.heap.size w wr)
    (fun _ i _ => s.size - (intOf i).toNat)
  case atStart => exact ⟨0, _, _, by omega, rfl, rfl, by simpa [hexL, bytesV] using ho1, (Below.refl _ w).grown hg1 (Nat.le_refl _) (by intro k hk; simp at hk)⟩
  case round =>
    obtain ⟨k, g0, cap0, hk, rfl, rfl, hr, hb⟩ := hrel
    have hbs := hb.size
    by_cases hlt : k < s.size
    · have hi1 : (0 : Int) ≤ (k : Int) := by omega
      have hi2 : (k : Int) < (s.size : Int) := by omega
      have hsk := byte_at s k hlt
      have hst : hexL (s.data.toList.take k) ++ [hxd (s[k].toNat / 16), hxd (s[k].toNat % 16)] = hexL (s.data.toList.take (k + 1)) := hexL_step s.data.toList k hlt
      generalize s[k] = c at hsk hst
      have hh := byte_hi c
      have hl := byte_lo c
      have HST := hide hst
      clear hst
      go_wp2_with fail
      go_region_held3 (fun _ => True) (trivial) ((refine step_append_lies _ (by rfl) _ _ _ (by rfl) w.heap.size 5 i5 (.int .u8 0) 1 1 hE.ht hE.hi hE.hz hE.hs hE.hb (by rfl) (by omega) _ (2 * k) (bytesV (hexL (s.data.toList.take k))) (by rfl) (by exact hr.alloc _) ⟨wr.heap.size, 0, none⟩ 2 2 [.int .u8 ((hxd (c.toNat / 16)).toNat : Int), .int .u8 ((hxd (c.toNat % 16)).toNat : Int)] (by rfl) (by rfl) (by exact World.news_of_block (heap_alloc_new wr _)) (two_u8 _ _) (by omega) (by unfold maxLen; omega) (by omega) (by simp; omega) _ rfl ?_; intro g cap w2 ho2 hg2 hat2 hlt2))
      all_goals (
        go_wp2
        go_roundw
        case rel => exact ⟨k + 1, g, cap, by omega, by go_num, rfl, by rw [← HST.out, ← bytes_two]; exact ho2, ((hb.alloc hbs _).drew).grown hg2 (by simp; omega) (fun j hj => (hr.lt j hj).1)⟩
        case measure => simp [intOf]; omega)
    · obtain rfl : k = s.size := by omega
      have e : s.data.toList.take s.size = s.data.toList := List.take_of_length_le (Nat.le_refl _)
      rw [e] at hr
      go_wp2_with ((with_reducible refine conv_out g0 (2 * s.size) cap0 (hexL s.data.toList) ?_ (BR.of_owns' hr) ?_); rfl)
      go_ret
      exact ⟨rfl, hb⟩
end Go.Proofs.YtdjpghgnjcmdnaaGreatDoor

/- What a desk is, as mathematics: a source, readers by their names, what was kept; and what each line does to it. -/
namespace Go.Proofs.YtdjpghgnjcmdnaaGreatDoor
open Go.RowKit Go.Sort
set_option linter.unusedSectionVars false
variable [Inhabited LowT]
/-- A reader: how many records it read, the mark of the last one, how many were lost to it, its rows. -/
structure RdS where
  q : Nat
  m : ByteArray
  lost : Nat
  τ : Tab
def rd0 : RdS := ⟨0, ⟨#[]⟩, 0, tab0⟩
/-- A desk: its secret, what was done, its readers, what was kept; how often a reader was named. -/
structure DeskS where
  sec : ByteArray
  h : Hst
  rd : ByteArray → Option RdS
  kept : Option RdS
  c : Nat
def desk0 (sec : ByteArray) : DeskS := ⟨sec, hst0, fun _ => none, none, 0⟩
def setR (s : DeskS) (x : ByteArray) (r : RdS) : DeskS := ⟨s.sec, s.h, fun y => if y = x then some r else s.rd y, s.kept, s.c + 1⟩
def getR (s : DeskS) (x : ByteArray) : RdS := (s.rd x).getD rd0
/-- The next record is read. -/
def readOne (h : Hst) (r : RdS) : RdS := ⟨r.q + 1, markR (h.rs.getD r.q recZ), if lossB h.ok r.q = true then r.lost + 1 else r.lost, if lossB h.ok r.q = true then r.τ else app (h.ok.getD r.q ev0) r.τ⟩
def readTo (h : Hst) (r : RdS) : Nat → RdS
  | 0 => r
  | k + 1 => readOne h (readTo h r k)
/-- What comes of a line: a number that is thrown, or what is told, and the desk behind it. -/
abbrev Res := Nat ⊕ (List UInt8 × DeskS)
def toldR (x : ByteArray) (ps : List (List UInt8)) (s : DeskS) : Res := .inr (toldL x (ps.map textL), s)
/-- A blank of a value is told as another sign. -/
def underL (l : List UInt8) : List UInt8 := l.map fun c => if c = 32 then 95 else c
/-- A row as one word. -/
def rowL (c : Cl) : List UInt8 := c.t.data.toList ++ 46 :: (c.r.data.toList ++ 58 :: (c.s.data.toList ++ 61 :: underL c.v.data.toList))
/-- The first word, a blank, and those behind it with one blank between. -/
def lineL (x : ByteArray) (xs : List ByteArray) : List UInt8 := x.data.toList ++ 32 :: Lib.join (xs.map (·.data.toList)) [32]
def itoaN (n : Nat) : List UInt8 := Lib.itoa (n : Int)
/-- An event that a line tells. -/
def happR (s : DeskS) (x : ByteArray) (xs : List ByteArray) : Res :=
  let t := textL (lineL x xs)
  let e := splitEv t
  if accB t e = false then .inl 3
  else if refuseB s.h.τ e ≠ 0 then .inl (refuseB s.h.τ e).toNat
  else if 100 ≤ s.h.rs.length then .inl 12
  else if e.k = 3 ∧ (s.h.σ e.s.data.toList).2 = false then .inl 8
  else
    let r := tellR s.sec s.h.σ s.h.rs e
    toldR x [itoaN r.q, itoaN r.g, itoaN r.d.size] ⟨s.sec, hstep s.sec s.h e, s.rd, s.kept, s.c⟩
def readR (s : DeskS) (x : ByteArray) (xs : List ByteArray) (z : Int) : Res :=
  let r := getR s (at_ xs 0)
  let r2 := readTo s.h r (min z.toNat s.h.ok.length - r.q)
  toldR x [itoaN r2.q] (setR s (at_ xs 0) r2)
def saveR (s : DeskS) (x : ByteArray) (xs : List ByteArray) : Res :=
  let r := getR s (at_ xs 0)
  let t := setR s (at_ xs 0) r
  toldR x [itoaN r.q] ⟨t.sec, t.h, t.rd, some ⟨r.q, markAt r.q r.m, r.lost, r.τ⟩, t.c⟩
def loadR (s : DeskS) (x : ByteArray) (xs : List ByteArray) : Res :=
  match s.kept with
  | none => .inl 1
  | some k => toldR x [itoaN k.q] (setR s (at_ xs 0) k)
def wireR (s : DeskS) (x : ByteArray) (z : Int) : Res :=
  if z < 1 ∨ (s.h.rs.length : Int) < z then .inl 7
  else toldR x [hexL (wireL (s.h.rs.getD (z - 1).toNat recZ))] s
def nonceB : ByteArray := ⟨#[48, 48, 48, 48, 48, 48, 48, 48, 48, 48, 48, 48]⟩
def blockR (s : DeskS) (x : ByteArray) (xs : List ByteArray) (z : Int) : Res :=
  if z < 0 ∨ 4294967295 < z then .inl 1
  else toldR x [hexL (blockL (sha (at_ xs 0).data.toList) (BitVec.ofNat 32 z.toNat) nonceB.data.toList)] s
def helpL : List UInt8 := Lib.join ((ordersL.map fun o => o.1.data.toList).mergeSort fun x y => decide (x ≤ y)) [32]
/-- What a word's order comes to: the words behind it, the number that it asks. -/
def Cmd (f : Nat) (s : DeskS) (x : ByteArray) (xs : List ByteArray) (z : Int) (res : Res) : Prop :=
  (f = 14 ∧ res = toldR x [] (desk0 (markB 100 [at_ xs 0]))) ∨
  (f = 15 ∧ res = happR s x xs) ∨
  (f = 16 ∧ ∃ ds, InOrd s.h.τ ds ∧ res = toldR x (ds.map rowL) s) ∨
  (f = 17 ∧ res = readR s x xs z) ∨
  (f = 18 ∧ ∃ ds, InOrd (getR s (at_ xs 0)).τ ds ∧ res = toldR x (ds.map rowL) (setR s (at_ xs 0) (getR s (at_ xs 0)))) ∨
  (f = 19 ∧ res = toldR x [itoaN (getR s (at_ xs 0)).lost] (setR s (at_ xs 0) (getR s (at_ xs 0)))) ∨
  (f = 20 ∧ res = saveR s x xs) ∨
  (f = 21 ∧ res = loadR s x xs) ∨
  (f = 22 ∧ res = toldR x (s.h.rs.map fun r => hexL ((markR r).data.toList.take 4)) s) ∨
  (f = 23 ∧ res = wireR s x z) ∨
  (f = 24 ∧ ∃ ts, InOrder s.h.σ ts ∧ res = toldR x ts s) ∨
  (f = 25 ∧ res = blockR s x xs z) ∨
  (f = 26 ∧ res = toldR x [hexL (sha (Lib.join (xs.map (·.data.toList)) [32]))] s) ∨
  (f = 27 ∧ res = .inr (helpL, s))
theorem Cmd.eq {f : Nat} {s : DeskS} {x : ByteArray} {xs : List ByteArray} {z : Int} {a b : Res} (h : Cmd f s x xs z a) (k : Cmd f s x xs z b) : a = b := by
  unfold Cmd at h k
  rcases h with ⟨rfl, h⟩ | ⟨rfl, h⟩ | ⟨rfl, ds, h1, h⟩ | ⟨rfl, h⟩ | ⟨rfl, ds, h1, h⟩ | ⟨rfl, h⟩ | ⟨rfl, h⟩ | ⟨rfl, h⟩ | ⟨rfl, h⟩ | ⟨rfl, h⟩ | ⟨rfl, ds, h1, h⟩ | ⟨rfl, h⟩ | ⟨rfl, h⟩ | ⟨rfl, h⟩
  all_goals simp only [Nat.reduceEqDiff, false_and, true_and, false_or, or_false] at k
  all_goals first
    | exact h.trans k.symm
    | (obtain ⟨es, k1, k⟩ := k; rw [h, k, InOrd.eq h1 k1])
    | (obtain ⟨es, k1, k⟩ := k; rw [h, k, InOrder.eq h1 k1])
/-- What a line comes to: its form first. -/
def ObeyR (s : DeskS) (x : ByteArray) (xs : List ByteArray) (res : Res) : Prop :=
  match orderB x with
  | none => res = .inl 3
  | some (n, q, f) =>
    if n ≠ -1 ∧ n ≠ (xs.length : Int) then res = .inl 3
    else if q = true then
      match numW (at_ xs (xs.length - 1)).data.toList with
      | none => res = .inl 3
      | some z => Cmd f s x xs z res
    else Cmd f s x xs 0 res
theorem ObeyR.eq {s : DeskS} {x : ByteArray} {xs : List ByteArray} {a b : Res} (h : ObeyR s x xs a) (k : ObeyR s x xs b) : a = b := by
  unfold ObeyR at h k
  cases ho : orderB x with
  | none => rw [ho] at h k; exact h.trans k.symm
  | some o =>
    obtain ⟨n, q, f⟩ := o
    rw [ho] at h k
    simp only at h k
    split at h
    · rename_i hc
      rw [if_pos hc] at k
      exact h.trans k.symm
    · rename_i hc
      rw [if_neg hc] at k
      split at h
      · rename_i hq
        rw [if_pos hq] at k
        cases hn : numW (at_ xs (xs.length - 1)).data.toList with
        | none => rw [hn] at h k; exact h.trans k.symm
        | some z => rw [hn] at h k; exact h.eq k
      · rename_i hq
        rw [if_neg hq] at k
        exact h.eq k
end Go.Proofs.YtdjpghgnjcmdnaaGreatDoor
