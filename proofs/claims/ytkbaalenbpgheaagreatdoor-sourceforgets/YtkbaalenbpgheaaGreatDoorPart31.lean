/- Texts of this proof, one behind the other. -/
import Derived.Shelf.SlicesE.Clone
import Derived.Shelf.SlicesE.DeleteFunc
import Derived.Laws.IdiomCopy
import Derived.Test.YtkbaalenbpgheaaGreatDoorPart30
/- What happens at a source, one event behind the other, as mathematics: what was done, and what each record is to the vault behind all of it. -/
namespace Go.Proofs.YtkbaalenbpgheaaGreatDoor
open Go.RowKit Go.Sort
/-- What a source came to: its keys, its rows, its records, what was done. -/
structure Hst where
  σ : Kept
  τ : Tab
  rs : List Rec
  ok : List Ev
def hst0 : Hst := ⟨kept0, tab0, [], []⟩
def hstep (sec : ByteArray) (s : Hst) (e : Ev) : Hst := if doesB s.σ s.τ e = true then ⟨tellK s.σ e, app e s.τ, s.rs ++ [tellR sec s.σ s.rs e], s.ok ++ [e]⟩ else s
theorem hstep_yes {sec : ByteArray} {s : Hst} {e : Ev} (h : doesB s.σ s.τ e = true) : hstep sec s e = ⟨tellK s.σ e, app e s.τ, s.rs ++ [tellR sec s.σ s.rs e], s.ok ++ [e]⟩ := if_pos h
theorem hstep_no {sec : ByteArray} {s : Hst} {e : Ev} (h : doesB s.σ s.τ e = false) : hstep sec s e = s := if_neg (by rw [h]; decide)
def hist (sec : ByteArray) (es : List Ev) (s : Hst) : Hst := es.foldl (hstep sec) s
theorem hist_take {sec : ByteArray} {es : List Ev} {k : Nat} {s : Hst} (h : k < es.length) : hist sec (es.take (k + 1)) s = hstep sec (hist sec (es.take k) s) (es.getD k ev0) := by
  unfold hist
  rw [List.take_succ_eq_append_getElem h, List.foldl_append, List.getD_eq_getElem?_getD, List.getElem?_eq_getElem h]
  rfl
theorem hist_append (sec : ByteArray) (l m : List Ev) (s : Hst) : hist sec (l ++ m) s = hist sec m (hist sec l s) := by
  unfold hist
  rw [List.foldl_append]
/-- A source to which events happened. -/
def Did (sec : ByteArray) (s : Hst) : Prop := ∃ es, s = hist sec es hst0
theorem Did.none {sec : ByteArray} : Did sec hst0 := ⟨[], rfl⟩
theorem Did.hist {sec : ByteArray} (es : List Ev) {s : Hst} (h : Did sec s) : Did sec (hist sec es s) := by
  obtain ⟨l, rfl⟩ := h
  exact ⟨l ++ es, (hist_append sec l es hst0).symm⟩
theorem Did.next {sec : ByteArray} {s : Hst} (h : Did sec s) (e : Ev) : Did sec (hstep sec s e) := Did.hist [e] h
theorem Did.run {sec : ByteArray} {P : Hst → Prop} (h1 : ∀ s e, Did sec s → P s → doesB s.σ s.τ e = true → P ⟨tellK s.σ e, app e s.τ, s.rs ++ [tellR sec s.σ s.rs e], s.ok ++ [e]⟩) : ∀ (es : List Ev) (s : Hst), Did sec s → P s → P (YtkbaalenbpgheaaGreatDoor.hist sec es s)
  | [], _, _, h => h
  | e :: es, s, hd, h => Did.run h1 es (hstep sec s e) (hd.next e) (by
    cases hq : doesB s.σ s.τ e
    · rw [hstep_no hq]; exact h
    · rw [hstep_yes hq]; exact h1 s e hd h hq)
/-- What is true of a new one, and behind each event that is done, is true. -/
theorem Did.ind {sec : ByteArray} {P : Hst → Prop} {s : Hst} (h : Did sec s) (h0 : P hst0) (h1 : ∀ s e, Did sec s → P s → doesB s.σ s.τ e = true → P ⟨tellK s.σ e, app e s.τ, s.rs ++ [tellR sec s.σ s.rs e], s.ok ++ [e]⟩) : P s := by
  obtain ⟨es, rfl⟩ := h
  exact Did.run h1 es hst0 Did.none h0
/-- Is a subject forgotten? -/
def lostB (l : List Ev) (s : ByteArray) : Bool := l.any (fun e => decide (e.k = 3) && decide (e.s = s))
/-- What a record is of its event, by a vault that has the keys σ. -/
structure RecOf (sec : ByteArray) (σ : Kept) (e : Ev) (r : Rec) (lost : Bool) : Prop where
  right : rightB e = true
  sub : r.s = e.s
  gen : r.g = 0 ↔ e.k = 3
  opn : e.k = 3 → r.d = textB e
  sl : e.k ≠ 3 → r.d = sealB (keyB sec r.s r.g) (nonceR r) (withR r) (textB e)
  there : e.k ≠ 3 → lost = false → σ r.s.data.toList = (r.g, true)
  left : e.k ≠ 3 → lost = true → r.g ≤ (σ r.s.data.toList).1 ∧ ¬ (r.g = (σ r.s.data.toList).1 ∧ (σ r.s.data.toList).2 = true)
theorem made_self (σ : Kept) (s : List UInt8) : (made σ s s).2 = true ∧ 1 ≤ (made σ s s).1 + (if (σ s).2 = true ∧ (σ s).1 = 0 then 1 else 0) := by
  unfold made
  rw [if_pos rfl]
  cases h : (σ s).2
  · simp
  · simp [h]; split <;> omega
/-- Who has a key had one. -/
def Sound (σ : Kept) : Prop := ∀ l, (σ l).2 = true → 1 ≤ (σ l).1
theorem Sound.made {σ : Kept} (h : Sound σ) (s : List UInt8) : Sound (made σ s) := by
  intro l hl
  unfold YtkbaalenbpgheaaGreatDoor.made at hl ⊢
  split
  · split
    · rename_i h2; exact h s h2
    · show 1 ≤ (σ s).1 + 1; omega
  · rename_i h1
    rw [if_neg h1] at hl
    exact h l hl
theorem Sound.gone {σ : Kept} (h : Sound σ) (s : List UInt8) : Sound (gone σ s) := by
  intro l hl
  unfold YtkbaalenbpgheaaGreatDoor.gone at hl ⊢
  split
  · rename_i h1; rw [if_pos h1] at hl; cases hl
  · rename_i h1
    rw [if_neg h1] at hl
    exact h l hl
theorem Sound.tellK {σ : Kept} (h : Sound σ) (e : Ev) : Sound (tellK σ e) := by
  unfold YtkbaalenbpgheaaGreatDoor.tellK
  split
  · exact h.gone _
  · exact h.made _
theorem Did.sound {sec : ByteArray} {s : Hst} (h : Did sec s) : Sound s.σ :=
  h.ind (P := fun s => Sound s.σ) (fun l hl => by cases hl) (fun _ e _ ih _ => ih.tellK e)
theorem sealR_d (sec : ByteArray) (σ : Kept) (r : Rec) (t : ByteArray) : (sealR sec σ r t).d = sealB (keyB sec (sealR sec σ r t).s (sealR sec σ r t).g) (nonceR (sealR sec σ r t)) (withR (sealR sec σ r t)) t := by
  have h1 : nonceR (sealR sec σ r t) = nonceR r := by simp only [nonceR, sealR]
  have h2 : withR (sealR sec σ r t) = withR { r with g := genR σ r.s } := by simp only [withR, sealR]
  rw [h1, h2]
  simp only [sealR]
theorem tell_new {sec : ByteArray} {σ : Kept} {rs : List Rec} {e : Ev} (hr : rightB e = true) (hs : Sound σ) : RecOf sec (tellK σ e) e (tellR sec σ rs e) false ∧ (tellR sec σ rs e).q = rs.length + 1 ∧ (tellR sec σ rs e).p = headR rs := by
  by_cases hk : e.k = 3
  · have e1 : tellR sec σ rs e = { newR rs e with d := textB e } := if_pos hk
    rw [e1]
    exact ⟨⟨hr, rfl, ⟨fun _ => hk, fun _ => rfl⟩, fun _ => rfl, fun h => absurd hk h, fun h => absurd hk h, fun h => absurd hk h⟩, rfl, rfl⟩
  · have e1 : tellR sec σ rs e = sealR sec σ (newR rs e) (textB e) := if_neg hk
    have e2 : tellK σ e = made σ e.s.data.toList := if_neg hk
    have g1 : 1 ≤ genR σ e.s ∧ (made σ e.s.data.toList e.s.data.toList).2 = true := by
      have h2 : (made σ e.s.data.toList e.s.data.toList).2 = true := (made_self σ e.s.data.toList).1
      exact ⟨hs.made e.s.data.toList _ h2, h2⟩
    rw [e1, e2]
    refine ⟨⟨hr, rfl, ⟨fun h => ?_, fun h => absurd h hk⟩, fun h => absurd h hk, fun _ => ?_, fun _ _ => ?_, fun _ h => by cases h⟩, rfl, rfl⟩
    · have : genR σ e.s = 0 := h
      omega
    · exact sealR_d sec σ (newR rs e) (textB e)
    · show made σ e.s.data.toList e.s.data.toList = (genR σ e.s, true)
      rw [← g1.2]
      rfl
theorem tell_old {sec : ByteArray} {σ : Kept} {e f : Ev} {r : Rec} {lost : Bool} (h : RecOf sec σ e r lost) : RecOf sec (tellK σ f) e r (lost || (decide (f.k = 3) && decide (f.s = e.s))) := by
  refine ⟨h.right, h.sub, h.gen, h.opn, h.sl, fun hk hl => ?_, fun hk hl => ?_⟩
  · rw [Bool.or_eq_false_iff] at hl
    have h1 := h.there hk hl.1
    unfold tellK
    split
    · rename_i h3
      have hne : f.s ≠ e.s := fun x => by rw [h3, x] at hl; simp at hl
      unfold gone
      rw [if_neg (fun x => hne (by rw [← h.sub]; exact (ba_eq x).symm))]
      exact h1
    · unfold made
      split
      · rename_i h4
        rw [← h4, h1]
        rfl
      · exact h1
  · by_cases h3 : f.k = 3
    · have e2 : tellK σ f = gone σ f.s.data.toList := if_pos h3
      rw [e2]
      unfold gone
      split
      · rename_i h4
        have hle : r.g ≤ (σ r.s.data.toList).1 := by
          cases lost
          · rw [h.there hk rfl]; exact Nat.le_refl _
          · exact (h.left hk rfl).1
        rw [← h4]
        exact ⟨hle, fun x => by cases x.2⟩
      · rename_i h4
        have : f.s ≠ e.s := fun x => h4 (by rw [h.sub, x])
        simp [h3, this] at hl
        exact h.left hk hl
    · have e2 : tellK σ f = made σ f.s.data.toList := if_neg h3
      rw [e2]
      have hl2 : lost = true := by simpa [h3] using hl
      have h5 := h.left hk hl2
      unfold made
      split
      · rename_i h4
        rw [← h4]
        split
        · exact h5
        · exact ⟨by show r.g ≤ (σ r.s.data.toList).1 + 1; omega, fun x => by have := x.1; simp at this; omega⟩
      · exact h5
theorem lostB_snoc (l : List Ev) (f : Ev) (s : ByteArray) : lostB (l ++ [f]) s = (lostB l s || (decide (f.k = 3) && decide (f.s = s))) := by simp [lostB]
theorem Did.recs {sec : ByteArray} {s : Hst} (h : Did sec s) : s.rs.length = s.ok.length ∧ ∀ i, i < s.ok.length → RecOf sec s.σ (s.ok.getD i ev0) (s.rs.getD i recZ) (lostB (s.ok.drop (i + 1)) (s.ok.getD i ev0).s) ∧ (s.rs.getD i recZ).q = i + 1 ∧ (s.rs.getD i recZ).p = headR (s.rs.take i) := by
  refine h.ind (P := fun s => s.rs.length = s.ok.length ∧ ∀ i, i < s.ok.length → RecOf sec s.σ (s.ok.getD i ev0) (s.rs.getD i recZ) (lostB (s.ok.drop (i + 1)) (s.ok.getD i ev0).s) ∧ (s.rs.getD i recZ).q = i + 1 ∧ (s.rs.getD i recZ).p = headR (s.rs.take i)) ⟨rfl, fun i hi => by simp [hst0] at hi⟩ ?_
  · intro s e hd ih hdo
    obtain ⟨hl, ih⟩ := ih
    refine ⟨by simp [hl], fun i hi => ?_⟩
    simp only at hi ⊢
    by_cases hi2 : i < s.ok.length
    · obtain ⟨h1, h2, h3⟩ := ih i hi2
      have hi3 : i < s.rs.length := by omega
      have a1 : (s.ok ++ [e]).getD i ev0 = s.ok.getD i ev0 := by simp [List.getD_eq_getElem?_getD, List.getElem?_append_left hi2]
      have a2 : (s.rs ++ [tellR sec s.σ s.rs e]).getD i recZ = s.rs.getD i recZ := by simp [List.getD_eq_getElem?_getD, List.getElem?_append_left hi3]
      have a3 : (s.ok ++ [e]).drop (i + 1) = s.ok.drop (i + 1) ++ [e] := List.drop_append_of_le_length (by omega)
      have a4 : (s.rs ++ [tellR sec s.σ s.rs e]).take i = s.rs.take i := List.take_append_of_le_length (by omega)
      rw [a1, a2, a3, a4, lostB_snoc]
      exact ⟨tell_old h1, h2, h3⟩
    · have hi4 : i = s.ok.length := by simp at hi; omega
      subst hi4
      have a1 : (s.ok ++ [e]).getD s.ok.length ev0 = e := by simp [List.getD_eq_getElem?_getD]
      have a2 : (s.rs ++ [tellR sec s.σ s.rs e]).getD s.ok.length recZ = tellR sec s.σ s.rs e := by rw [← hl]; simp [List.getD_eq_getElem?_getD]
      have a3 : (s.ok ++ [e]).drop (s.ok.length + 1) = [] := List.drop_eq_nil_of_le (by simp)
      have a4 : (s.rs ++ [tellR sec s.σ s.rs e]).take s.ok.length = s.rs := by rw [← hl]; simp
      rw [a1, a2, a3, a4, ← hl]
      exact tell_new (does_parts hdo).1 hd.sound
end Go.Proofs.YtkbaalenbpgheaaGreatDoor

/- What a law has behind its own done: a source, the events that were done, its rows behind each. -/
namespace Go.Proofs.YtkbaalenbpgheaaGreatDoor
open Go.RowKit Go.Sort
set_option linter.unusedSectionVars false
variable [Inhabited Cl] [Inhabited Ev]
theorem ownsRow_turned {w w' : World} {b : Nat} {t : TypeId} {n len : Nat} {v : Value} {l : List Value} {L : List Nat} (h : w.ownsRow b t n v len l) (s : Stirred L w w') (hn : ∀ g, v.ownBlock = some g → g ∉ L) : w'.ownsRow b t n v len l := by
  refine ⟨h.1, ?_⟩
  rcases h.2 with e | ⟨g, cap, cur, hv, hb, hg, r⟩
  · exact .inl e
  · exact .inr ⟨g, cap, cur, hv, hb, (s.block g (lt_of_block hg) (hn g (by rw [hv]; rfl))).trans hg, r⟩
theorem ownsRow_below {w w' : World} {b : Nat} {t : TypeId} {n len : Nat} {v : Value} {l : List Value} (h : w.ownsRow b t n v len l) (k : Below w.heap.size w w') : w'.ownsRow b t n v len l := ownsRow_turned h (Stirred.of_below k []) (fun _ _ => by simp)
theorem ownsRow_has {w : World} {b : Nat} {t : TypeId} {n len : Nat} {v : Value} {l : List Value} (h : w.ownsRow b t n v len l) {g : Nat} (hg : v.ownBlock = some g) : ∃ cur, HasR w g t cur := by
  rcases h.2 with ⟨e, _⟩ | ⟨g', cap, cur, e, hb, hh, _⟩
  · rw [e] at hg; cases hg
  · rw [e] at hg
    have hg1 : some g' = some g := hg
    simp only [Option.some.injEq] at hg1
    subst hg1
    exact ⟨cur, hh⟩
/-- A block of another type is none of a source's own. -/
theorem Src.apartR {B : Nat} {w : World} {sb fb vb : Nat} {mt mv : Option Nat} {v : Value} {nt nv : Nat} {sec : ByteArray} {σ : Kept} {τ : Tab} {rs : List Rec} (h : Src B w sb fb vb mt mv v nt nv sec σ τ rs) {g : Nat} {t : TypeId} {cs : Array Value} (hr : HasR w g t cs) (h1 : t ≠ 95) (h2 : t ≠ 126) (h3 : t ≠ 101) (h4 : t ≠ 30) : g ∉ ownS sb fb vb mt mv v := by
  intro hj
  unfold ownS at hj
  simp only [List.mem_cons, List.mem_append] at hj
  rcases hj with e | e | e | e | e | e
  · exact hr.apartT h.tab.row h1 e
  · exact hr.apartT h.feed.row h2 e
  · exact hr.apartT h.keys.row h3 e
  · obtain ⟨D, ho, _⟩ := h.tab.held g (by simpa using e)
    exact hr.noMap ho rfl
  · obtain ⟨D, ho, _⟩ := h.keys.held g (by simpa using e)
    exact hr.noMap ho rfl
  · obtain ⟨cur, hx⟩ := h.feed.block (g := g) (by simpa using e)
    exact hr.apartT hx h4 rfl
theorem RowC.aside {w w' : World} {base : Nat} {v : Value} {cs : List Cl} {L : List Nat} (h : RowC w base v cs) (t : Stirred L w w') (hL : ∀ g, v.ownBlock = some g → g ∉ L) : RowC w' base v cs := by
  rcases h with h | ⟨g, cap, rfl, hb, hg, h1, h2, h3⟩
  · exact .inl h
  · exact .inr ⟨g, cap, rfl, hb, Nat.lt_of_lt_of_le hg t.size, h1, h2, holdsK_same h3 (t.block g hg (hL g rfl))⟩
theorem RowC.own {w : World} {base : Nat} {v : Value} {cs : List Cl} (h : RowC w base v cs) {g : Nat} (hg : v.ownBlock = some g) : base ≤ g ∧ g < w.heap.size := by
  rcases h with ⟨rfl, _⟩ | ⟨g', cap, rfl, hb, hl, _⟩
  · cases hg
  · have e : some g' = some g := hg
    simp only [Option.some.injEq] at e
    subst e
    exact ⟨hb, hl⟩
/-- Events, cell by cell. -/
def evsL (es : List Ev) : List Value := es.flatMap evL
theorem evsL_snoc (es : List Ev) (e : Ev) : evsL (es ++ [e]) = evsL es ++ evL e := by simp [evsL]
theorem evsL_at : ∀ (es : List Ev) (j i : Nat), j < es.length → i < 5 → (evsL es)[j * 5 + i]? = (evL (es.getD j ev0))[i]?
  | [], j, i, h, _ => by simp at h
  | e :: es, j, i, h, hi => by
    have e0 : evsL (e :: es) = evL e ++ evsL es := rfl
    have e5 : (evL e).length = 5 := rfl
    rw [e0]
    cases j with
    | zero =>
      rw [List.getElem?_append_left (by omega)]
      simp
    | succ j =>
      rw [List.getElem?_append_right (by omega)]
      have ih := evsL_at es j i (by simpa using h) hi
      rw [e5, show (j + 1) * 5 + i - 5 = j * 5 + i by omega, ih]
      rfl
def nilS : Value := .slice none 0 0
structure Dn (B : Nat) (w : World) (σ : Kept) (τ : Tab) (rs : List Rec) (n : Nat) (ok : List Ev) (vok vrows : Value) (vals : List Value) : Prop where
  src : ∃ mt mv v, Src B w (B + 2) (B + 1) B mt mv v n n secB σ τ rs ∧ ∀ u ∈ vals, ∀ g, u.ownBlock = some g → g ∉ ownS (B + 2) (B + 1) B mt mv v
  noted : w.ownsRow B 36 5 vok ok.length (evsL ok)
  rows : w.ownsRow B 45 1 vrows vals.length vals
  off : ∀ u ∈ vals, ∀ g, u.ownBlock = some g → g < w.heap.size ∧ vok.ownBlock ≠ some g ∧ vrows.ownBlock ≠ some g
  cells : ∀ j, j < vals.length → ∃ ds, InOrd (runs (ok.take j) tab0) ds ∧ ds.length ≤ j ∧ RowC w 0 (vals.getD j nilS) ds
theorem getD_mem {α : Type} {l : List α} {j : Nat} {d : α} (h : j < l.length) : l.getD j d ∈ l := by
  rw [List.getD_eq_getElem?_getD, List.getElem?_eq_getElem h]
  exact List.getElem_mem h
theorem Dn.still {B : Nat} {w w' : World} {σ : Kept} {τ : Tab} {rs : List Rec} {n : Nat} {ok : List Ev} {vok vrows : Value} {vals : List Value} (h : Dn B w σ τ rs n ok vok vrows vals) (k : Below w.heap.size w w') : Dn B w' σ τ rs n ok vok vrows vals := by
  obtain ⟨mt, mv, v, hS, ho⟩ := h.src
  exact ⟨⟨mt, mv, v, hS.still k, ho⟩, ownsRow_below h.noted k, ownsRow_below h.rows k, fun u hu g hg => ⟨Nat.lt_of_lt_of_le (h.off u hu g hg).1 k.size, (h.off u hu g hg).2⟩, fun j hj => by
    obtain ⟨ds, h1, h2, h3⟩ := h.cells j hj
    exact ⟨ds, h1, h2, h3.below k (Nat.le_refl _)⟩⟩
/-- An event was done at the source. -/
theorem Dn.do {B : Nat} {w w' : World} {σ σ' : Kept} {τ τ' : Tab} {rs rs' : List Rec} {n n' : Nat} {ok : List Ev} {vok vrows : Value} {vals : List Value} {mt mv mt' mv' : Option Nat} {v v' : Value} (h : Dn B w σ τ rs n ok vok vrows vals) (hS : Src B w (B + 2) (B + 1) B mt mv v n n secB σ τ rs) (ho : ∀ u ∈ vals, ∀ g, u.ownBlock = some g → g ∉ ownS (B + 2) (B + 1) B mt mv v) (hS' : Src B w' (B + 2) (B + 1) B mt' mv' v' n' n' secB σ' τ' rs') (hN : ∀ j ∈ ownS (B + 2) (B + 1) B mt' mv' v', j ∈ ownS (B + 2) (B + 1) B mt mv v ∨ w.heap.size ≤ j) (t : Stirred (ownS (B + 2) (B + 1) B mt mv v) w w') : Dn B w' σ' τ' rs' n' ok vok vrows vals := by
  refine ⟨⟨mt', mv', v', hS', fun u hu g hg hm => ?_⟩, ?_, ?_, fun u hu g hg => ⟨Nat.lt_of_lt_of_le (h.off u hu g hg).1 t.size, (h.off u hu g hg).2⟩, fun j hj => ?_⟩
  · rcases hN g hm with e | e
    · exact ho u hu g hg e
    · have := (h.off u hu g hg).1
      omega
  · exact ownsRow_turned h.noted t (fun g hg => by
      obtain ⟨cur, hc⟩ := ownsRow_has h.noted hg
      exact hS.apartR hc (by decide) (by decide) (by decide) (by decide))
  · exact ownsRow_turned h.rows t (fun g hg => by
      obtain ⟨cur, hc⟩ := ownsRow_has h.rows hg
      exact hS.apartR hc (by decide) (by decide) (by decide) (by decide))
  · obtain ⟨ds, h1, h2, h3⟩ := h.cells j hj
    exact ⟨ds, h1, h2, h3.aside t (ho _ (getD_mem hj))⟩
/-- It is noted. -/
theorem Dn.note {B : Nat} {w w' : World} {σ : Kept} {τ : Tab} {rs : List Rec} {n : Nat} {ok : List Ev} {vok vrows : Value} {vals : List Value} {e : Ev} {g len cap : Nat} (h : Dn B w σ τ rs n ok vok vrows vals) (hv : vals.length = ok.length + 1) (hl : len = ok.length + 1) (ho : w'.ownsRow B 36 5 (.slice (some ⟨g, 0, none⟩) len cap) len (evsL ok ++ evL e)) (hg : w.grownBy w' vok.ownBlock) (hat : vok.ownBlock = some g ∨ w.heap.size ≤ g) : Dn B w' σ τ rs n (ok ++ [e]) (.slice (some ⟨g, 0, none⟩) len cap) vrows vals := by
  have t := Stirred.of_grownO hg
  obtain ⟨mt, mv, v, hS, hoff⟩ := h.src
  have nr : ∀ g', vrows.ownBlock = some g' → g' ∉ vok.ownBlock.toList := fun g' hg' hm => by
    obtain ⟨c1, x1⟩ := ownsRow_has h.rows hg'
    obtain ⟨c2, x2⟩ := ownsRow_has h.noted (g := g') (by simpa using hm)
    exact x1.apartT x2 (by decide) rfl
  have nu : ∀ u ∈ vals, ∀ g', u.ownBlock = some g' → g' ∉ vok.ownBlock.toList := fun u hu g' hg' hm => (h.off u hu g' hg').2.1 (by simpa using hm)
  refine ⟨⟨mt, mv, v, hS.turned t (fun j hj hm => ?_), hoff⟩, ?_, ownsRow_turned h.rows t nr, fun u hu g' hg' => ⟨Nat.lt_of_lt_of_le (h.off u hu g' hg').1 hg.size, fun e1 => ?_, (h.off u hu g' hg').2.2⟩, fun j hj => ?_⟩
  · obtain ⟨c2, x2⟩ := ownsRow_has h.noted (g := j) (by simpa using hm)
    exact hS.apartR x2 (by decide) (by decide) (by decide) (by decide) hj
  · rw [evsL_snoc, List.length_append, List.length_singleton, ← hl]
    exact ho
  · have e2 : some g = some g' := e1
    simp only [Option.some.injEq] at e2
    subst e2
    rcases hat with e3 | e3
    · exact (h.off u hu g hg').2.1 e3
    · have := (h.off u hu g hg').1
      omega
  · obtain ⟨ds, h1, h2, h3⟩ := h.cells j hj
    refine ⟨ds, ?_, h2, h3.aside t (nu _ (getD_mem hj))⟩
    rw [List.take_append_of_le_length (by omega)]
    exact h1
/-- Its rows are noted. -/
theorem Dn.row {B : Nat} {w w1 w' : World} {σ : Kept} {τ : Tab} {rs : List Rec} {n : Nat} {ok : List Ev} {vok vrows : Value} {vals : List Value} {u : Value} {ds : List Cl} {g len cap : Nat} (h : Dn B w σ τ rs n ok vok vrows vals) (hb : Below w.heap.size w w1) (hv : vals.length = ok.length) (hl : len = vals.length + 1) (hd : InOrd (runs ok tab0) ds) (hds : ds.length ≤ ok.length) (hr : RowC w1 w.heap.size u ds) (ho : w'.ownsRow B 45 1 (.slice (some ⟨g, 0, none⟩) len cap) len (vals ++ [u])) (hg : w1.grownBy w' vrows.ownBlock) (hat : vrows.ownBlock = some g ∨ w1.heap.size ≤ g) : Dn B w' σ τ rs n ok vok (.slice (some ⟨g, 0, none⟩) len cap) (vals ++ [u]) := by
  have t := Stirred.of_grownO hg
  have h1 := h.still hb
  obtain ⟨mt, mv, v, hS0, hoff0⟩ := h.src
  have hS := hS0.still hb
  have nok : ∀ g', vok.ownBlock = some g' → g' ∉ vrows.ownBlock.toList := fun g' hg' hm => by
    obtain ⟨c1, x1⟩ := ownsRow_has h1.noted hg'
    obtain ⟨c2, x2⟩ := ownsRow_has h1.rows (g := g') (by simpa using hm)
    exact x1.apartT x2 (by decide) rfl
  have nr : ∀ u' ∈ vals, ∀ g', u'.ownBlock = some g' → g' ∉ vrows.ownBlock.toList := fun u' hu g' hg' hm => (h1.off u' hu g' hg').2.2 (by simpa using hm)
  have nu : ∀ g', u.ownBlock = some g' → g' ∉ vrows.ownBlock.toList := fun g' hg' hm => by
    have a := (hr.own hg').1
    have b := (h.rows.lt g' (by simpa using hm)).2
    omega
  refine ⟨⟨mt, mv, v, hS.turned t (fun j hj hm => ?_), fun u' hu' g' hg' hm => ?_⟩, ownsRow_turned h1.noted t nok, ?_, fun u' hu' g' hg' => ?_, fun j hj => ?_⟩
  · obtain ⟨c2, x2⟩ := ownsRow_has h1.rows (g := j) (by simpa using hm)
    exact hS.apartR x2 (by decide) (by decide) (by decide) (by decide) hj
  · rcases List.mem_append.1 hu' with hu' | hu'
    · exact hoff0 u' hu' g' hg' hm
    · simp at hu'
      subst hu'
      have a := (hr.own hg').1
      have b := hS0.oldO g' hm
      omega
  · rw [List.length_append, List.length_singleton, ← hl]
    exact ho
  · have far : g' < w1.heap.size → vrows.ownBlock ≠ some g' → (Value.slice (some ⟨g, 0, none⟩) len cap).ownBlock ≠ some g' := fun l1 l2 e1 => by
      have e2 : some g = some g' := e1
      simp only [Option.some.injEq] at e2
      subst e2
      rcases hat with e3 | e3
      · exact l2 e3
      · omega
    rcases List.mem_append.1 hu' with hu' | hu'
    · obtain ⟨a, b, c⟩ := h1.off u' hu' g' hg'
      exact ⟨Nat.lt_of_lt_of_le a hg.size, b, far a c⟩
    · simp at hu'
      subst hu'
      obtain ⟨a, b⟩ := hr.own hg'
      refine ⟨Nat.lt_of_lt_of_le b hg.size, fun e1 => ?_, far b (fun e1 => ?_)⟩
      · have := (h.noted.lt g' e1).2
        omega
      · have := (h.rows.lt g' e1).2
        omega
  · rw [List.length_append, List.length_singleton] at hj
    by_cases hj2 : j < vals.length
    · obtain ⟨ds', a, b, c⟩ := h1.cells j hj2
      have e1 : (vals ++ [u]).getD j nilS = vals.getD j nilS := by simp [List.getD_eq_getElem?_getD, List.getElem?_append_left hj2]
      rw [e1]
      exact ⟨ds', a, b, c.aside t (nr _ (getD_mem hj2))⟩
    · have ej : j = vals.length := by omega
      subst ej
      have e1 : (vals ++ [u]).getD vals.length nilS = u := by simp [List.getD_eq_getElem?_getD]
      rw [e1, hv, List.take_length]
      exact ⟨ds, hd, hds, (hr.aside t nu).mono (Nat.zero_le _)⟩
theorem Did.tau {sec : ByteArray} {s : Hst} (h : Did sec s) : s.τ = runs s.ok tab0 := by
  refine h.ind (P := fun s => s.τ = runs s.ok tab0) rfl ?_
  intro s e _ ih _
  simp only
  rw [runs_snoc, ← ih]
theorem info35 : (Tryz.prog.info? 36).map (fun i => (i.zero, i.size, i.bytes)) = some (some (.agg #[.int .i64 0, .string ⟨#[]⟩, .string ⟨#[]⟩, .string ⟨#[]⟩, .string ⟨#[]⟩]), 5, 72) := by kernel_rfl
theorem info57 : (Tryz.prog.info? 45).map (fun i => (i.zero, i.size, i.bytes)) = some (some (.slice none 0 0), 1, 24) := by kernel_rfl
end Go.Proofs.YtkbaalenbpgheaaGreatDoor

/- The library's Clone and DeleteFunc, of cells, by the law's own closure. -/
namespace Go.Proofs.YtkbaalenbpgheaaGreatDoor
open Go.RowKit Go.Sort Go.Shelf
attribute [local go_sem ↓] Go.wp_at_zero Go.wp_at_succ
set_option linter.unusedSectionVars false
variable [Inhabited Cl] [Inhabited Ev]
theorem info59 : (Tryz.prog.info? 42).map (fun i => (i.zero, i.size, i.bytes)) = some (some (cellV cl0), 4, 64) := by kernel_rfl
def laysCloneC_ren : Go.Shelf.Ren := ⟨fun | 41 => 18 | n => n, fun | 22 => 45 | 23 => 42 | 4 => 4 | n => n, fun | n => n⟩
theorem laysCloneC : Go.Proofs.SlLaysE0.n41 Tryz.prog laysCloneC_ren := {
  mixed := by kernel_rfl
  f41 := ⟨Tryz.f18.name, by decide, Tryz.func18.trans (congrArg some (by kernel_rfl))⟩
  t4 := Tryz.underlying4
  a4 := Tryz.isAgg4
  z4 := Tryz.sizeOf4
  v4 := Tryz.zeroValue4
  t22 := Tryz.underlying45
  a22 := Tryz.isAgg45
  z22 := Tryz.sizeOf45
  v22 := Tryz.zeroValue45 }
theorem cellsL_len : ∀ cs : List Cl, (cellsL cs).length = cs.length * 4
  | [] => rfl
  | c :: cs => by
    have ih := cellsL_len cs
    have e : cellsL (c :: cs) = cellL c ++ cellsL cs := rfl
    have e4 : (cellL c).length = 4 := rfl
    rw [e, List.length_append, ih, e4, List.length_cons]
    omega
/-- slices.Clone. -/
theorem clone_any (b : Nat) (v : Value) (cs : List Cl) (w : World) (h : RowC w b v cs) (hl : cs.length ≤ 1000) :
    Calls Tryz.prog 18 #[v] w fun x w' => ∃ u, x = .returned u ∧ w'.ownsRow w.heap.size 42 4 u cs.length (cellsL cs) ∧ Below w.heap.size w w' := by
  obtain ⟨i0, hi, hz0, hz1, hz2⟩ := info_parts info59
  rcases h with ⟨rfl, rfl⟩ | ⟨g, cap, rfl, _, hg, hc, _, H⟩
  · refine (AnyE.slices_Clone_nil (ρ := laysCloneC_ren) laysCloneC 0 0 w).mono ?_
    rintro x w' ⟨rfl, rfl⟩
    exact ⟨_, rfl, World.ownsRow_nil _ _ _ _, Below.refl _ _⟩
  · have hlen := cellsL_len cs
    refine (AnyE.slices_Clone (ρ := laysCloneC_ren) laysCloneC i0 (cellV cl0) 4 64 hi hz0 hz1 hz2 rfl (by omega) sizeOf42 g 0 cs.length cap (cellsL cs) w hlen (by unfold maxLen; omega) (by omega) ?_ ?_).mono ?_
    · intro j u hj
      have hj4 : j < cs.length * 4 := by
        have := (List.getElem?_eq_some_iff.1 hj).1
        omega
      have h1 := (H j (by rw [size_flatK, List.size_toArray]; exact hj4)).1
      rw [get_flatK _ _ _ _ (by rw [List.size_toArray]; exact hj4)] at h1
      rw [cellsL_at cs j hj4] at hj
      rw [h1]
      exact hj
    · intro u hu
      unfold cellsL at hu
      obtain ⟨c, _, hc⟩ := List.mem_flatMap.1 hu
      exact cellL_one c u hc
    · rintro x w' ⟨u, rfl, ho, _, hb⟩
      exact ⟨u, rfl, ho, hb⟩
/-- What the closure says of a cell, wherever the memory below a place is as it was. -/
def PredFrom (base bg : Nat) (p : Cl → Bool) (w : World) : Prop := ∀ (W : World) (x : Cl), Below base w W → Calls Tryz.prog 14 #[.agg #[.string x.t, .string x.r, .string x.s, .string x.v], .pointer (some ⟨bg, 0, none⟩)] W fun e w' => e = .returned (.bool (p x)) ∧ Below W.heap.size W w'
/-- Some of a row have been looked at: those that stay lie ahead, the others as they were. -/
structure Struck (p : Cl → Bool) (cs : List Cl) (cap i j : Nat) (cur : Array Value) : Prop where
  size : cur.size = cap * 4
  lt : i < j
  le : j ≤ cs.length
  len : ((cs.take j).filter fun c => !p c).length = i
  kept : cur.toList.take (i * 4) = cellsL ((cs.take j).filter fun c => !p c)
  rest : ∀ a, j ≤ a → a < cs.length → ∀ c u, (cellL cs[a]!)[c]? = some u → cur[a * 4 + c]? = some u
theorem take_snocC (cs : List Cl) (k : Nat) (h : k < cs.length) : cs.take (k + 1) = cs.take k ++ [cs[k]!] := by
  rw [List.take_succ_eq_append_getElem h, getElem!_pos cs k h]
theorem Struck.skip {p : Cl → Bool} {cs : List Cl} {cap i j : Nat} {cur : Array Value} (h : Struck p cs cap i j cur) (hj : j < cs.length) (hp : p cs[j]! = true) : Struck p cs cap i (j + 1) cur := by
  have e : (cs.take (j + 1)).filter (fun c => !p c) = (cs.take j).filter fun c => !p c := by
    rw [take_snocC cs j hj, List.filter_append]
    generalize cs[j]! = x at hp
    simp [hp]
  have := h.lt
  exact ⟨h.size, by omega, by omega, by rw [e]; exact h.len, by rw [e]; exact h.kept, fun a ha => h.rest a (by omega)⟩
theorem Struck.keep {p : Cl → Bool} {cs : List Cl} {cap i j : Nat} {cur : Array Value} (h : Struck p cs cap i j cur) (hj : j < cs.length) (hc : cs.length ≤ cap) (hp : p cs[j]! = false) :
    Struck p cs cap (i + 1) (j + 1) (cur.toList.take (i * 4) ++ cellL cs[j]! ++ cur.toList.drop (i * 4 + (cellL cs[j]!).length)).toArray := by
  have hs := h.size
  have hl := h.lt
  have e : (cs.take (j + 1)).filter (fun c => !p c) = ((cs.take j).filter fun c => !p c) ++ [cs[j]!] := by
    rw [take_snocC cs j hj, List.filter_append]
    generalize cs[j]! = x at hp
    simp [hp]
  have h4 : (cellL cs[j]!).length = 4 := rfl
  have ht : (cur.toList.take (i * 4)).length = i * 4 := by rw [List.length_take, Array.length_toList]; omega
  refine ⟨?_, by omega, by omega, by rw [e, List.length_append, h.len]; rfl, ?_, fun a ha ha2 c u hu => ?_⟩
  · rw [List.size_toArray, List.length_append, List.length_append, ht, List.length_drop, Array.length_toList]
    show i * 4 + 4 + (cur.size - (i * 4 + 4)) = cap * 4
    omega
  · have e2 : (i + 1) * 4 = (cur.toList.take (i * 4) ++ cellL cs[j]!).length := by rw [List.length_append, ht, h4]; omega
    rw [List.toList_toArray, e2, List.take_left, e, cellsL_snoc, h.kept]
  · have hc4 : c < 4 := (List.getElem?_eq_some_iff.1 hu).1
    rw [List.getElem?_toArray, List.getElem?_append_right (by rw [List.length_append, ht, h4]; omega), List.getElem?_drop, List.length_append, ht, h4]
    have := h.rest a (by omega) ha2 c u hu
    rw [← Array.getElem?_toList] at this
    rw [← this]
    congr 1
    omega
theorem clear59 (w : World) (ty : TypeId) (g o n c : Nat) (hn : 0 < n) (cur : Array Value) (hg : HasR w g 42 cur) (hs : o + n * 4 ≤ cur.size) :
    ∃ vs : List Value, vs.length = n * 4 ∧ (Builtin.clear_ #[45] ty #[.slice (some ⟨g, o, none⟩) n c]).run Tryz.prog w = .ok (.tuple #[]) (w.setCells g o vs) := by
  have hz4 : (cellV cl0).cells.size = 4 := rfl
  have hlen : (Builtin.zeroCells (cellV cl0).cells n).toList.length = n * 4 := by simp [Builtin.zeroCells, hz4]
  refine ⟨_, hlen, ?_⟩
  have hst := run_storeCells_cells (P := Tryz.prog) g o (Builtin.zeroCells (cellV cl0).cells n).toList 0 w
    (fun j hj => by
      rw [HasR.cell hg, Array.getElem?_eq_getElem (by omega)]
      rfl)
    (fun j _ => HasR.free hg _)
    (fun v hv => by
      simp only [Builtin.zeroCells, Array.toList_map, List.mem_map] at hv
      obtain ⟨i, _, rfl⟩ := hv
      have h4 : i % (cellV cl0).cells.size < 4 := by rw [hz4]; omega
      generalize i % (cellV cl0).cells.size = k at h4
      match k, h4 with
      | 0, _ => rfl
      | 1, _ => rfl
      | 2, _ => rfl
      | 3, _ => rfl)
  simp only [Nat.add_zero] at hst
  obtain ⟨m, rfl⟩ : ∃ m, n = m + 1 := ⟨n - 1, by omega⟩
  have hst2 : Sem.run Tryz.prog (storeCells ⟨g, o, none⟩ (Builtin.zeroCells (Value.agg #[.string ⟨#[]⟩, .string ⟨#[]⟩, .string ⟨#[]⟩, .string ⟨#[]⟩]).cells (m + 1)).toList) w = _ := hst
  simp [Builtin.clear_, run_underlying Tryz.underlying45, hst2]
theorem filter_none {p : Cl → Bool} : ∀ {cs : List Cl}, (∀ j, j < cs.length → p cs[j]! = false) → (cs.filter fun c => !p c) = cs := by
  intro cs h
  rw [List.filter_eq_self]
  intro c hc
  obtain ⟨j, hj, rfl⟩ := List.mem_iff_getElem.1 hc
  have := h j hj
  rw [getElem!_pos cs j hj] at this
  rw [this]
  rfl
theorem struck_start {p : Cl → Bool} {cs : List Cl} {cap k : Nat} {cur : Array Value} (hs : cur.size = cap * 4) (hc : cur.toList.take (cs.length * 4) = cellsL cs) (hk : k < cs.length) (hp : p cs[k]! = true) (ha : ∀ j, j < k → p cs[j]! = false) : Struck p cs cap k (k + 1) cur := by
  have e0 : (cs.take k).filter (fun c => !p c) = cs.take k := filter_none (fun j hj => by
    have hj' : j < k := by rw [List.length_take] at hj; omega
    have := ha j hj'
    rw [getElem!_pos cs j (by omega)] at this
    rw [getElem!_pos (cs.take k) j hj, List.getElem_take]
    exact this)
  have e : (cs.take (k + 1)).filter (fun c => !p c) = cs.take k := by
    rw [take_snocC cs k hk, List.filter_append, e0]
    generalize cs[k]! = x at hp
    simp [hp]
  refine ⟨hs, by omega, by omega, by rw [e, List.length_take]; omega, ?_, fun a ha2 ha3 c u hu => ?_⟩
  · rw [e]
    have h1 : cellsL cs = cellsL (cs.take k) ++ cellsL (cs.drop k) := by
      unfold cellsL
      rw [← List.flatMap_append, List.take_append_drop]
    have h2 : (cellsL (cs.take k)).length = k * 4 := by rw [cellsL_len, List.length_take]; congr 1; omega
    have h3 : cur.toList.take (k * 4) = (cur.toList.take (cs.length * 4)).take (k * 4) := by rw [List.take_take]; congr 1; omega
    rw [h3, hc, h1, ← h2, List.take_left]
  · have hc4 : c < 4 := (List.getElem?_eq_some_iff.1 hu).1
    have h1 := cellsL_at cs (a * 4 + c) (by omega)
    have e1 : (a * 4 + c) / 4 = a := by omega
    have e2 : (a * 4 + c) % 4 = c := by omega
    rw [e1, e2, ← hc, List.getElem?_take_of_lt (by omega)] at h1
    rw [← Array.getElem?_toList, h1]
    have e3 : cs.toArray[a]! = cs[a]! := by simp
    rw [e3, ← hu, List.getElem?_eq_getElem (by exact hc4), getElem!_pos _ c (by exact hc4)]
theorem index_from (base g cap bg : Nat) (cs : List Cl) (p : Cl → Bool) (w : World) (hg : g < w.heap.size) (hb : base ≤ g) (H : HoldsK cellL 4 w g 0 cs.toArray) (hl : cs.length ≤ 1000) (hP : PredFrom base bg p w) :
    Calls Tryz.prog 51 #[.slice (some ⟨g, 0, none⟩) cs.length cap, .func (.func 14) #[] #[.pointer (some ⟨bg, 0, none⟩)]] w fun x w' =>
      ((x = .returned (.int .i64 (-1)) ∧ ∀ j, j < cs.length → p cs[j]! = false) ∨ ∃ k : Nat, k < cs.length ∧ x = .returned (.int .i64 k) ∧ p cs[k]! = true ∧ ∀ j, j < k → p cs[j]! = false) ∧ Below w.heap.size w w' := by
  have h := AnyQ.slices_IndexFunc (ρ := laysIdx_ren) laysIdx 4 isAgg42 sizeOf42 cellL (fun _ => rfl) p 14 #[.pointer (some ⟨bg, 0, none⟩)] (enters_of Tryz.func14 (by kernel_rfl) rfl) g 0 cs.length cap cs w (fun W x hB => (hP W x (hB.mono (by omega))).mono fun _ _ ⟨he, h⟩ => ⟨he, hB.trans (h.mono hB.size)⟩) (Nat.le_refl _) (by omega) hg (RowC.cells H)
  rw [List.take_length] at h
  refine h.mono ?_
  rintro x w' ⟨rfl, hb⟩
  refine ⟨?_, hb⟩
  rcases idxByFrom_spec (fun _ y => p y) default cs 0 with ⟨e1, hall⟩ | ⟨k0, hk0, e1, ht, hall⟩
  · exact .inl ⟨by unfold Lib.idxBy; rw [e1], hall⟩
  · exact .inr ⟨k0, hk0, by unfold Lib.idxBy; rw [e1]; simp, ht, hall⟩
set_option maxRecDepth 100000 in
set_option maxHeartbeats 4000000 in
theorem strike_some (base g cap bg : Nat) (cs : List Cl) (cur : Array Value) (p : Cl → Bool) (w : World) (hG : HasR w g 42 cur) (hs : cur.size = cap * 4) (hcap : cs.length ≤ cap) (hmax : cap ≤ maxLen) (hc : cur.toList.take (cs.length * 4) = cellsL cs)
    (hb : base ≤ g) (hl : cs.length ≤ 1000) (hP : PredFrom base bg p w) :
    Calls Tryz.prog 17 #[.slice (some ⟨g, 0, none⟩) cs.length cap, .func (.func 14) #[] #[.pointer (some ⟨bg, 0, none⟩)]] w fun x w' => ∃ u, x = .returned u ∧ RowC w' base u (cs.filter fun c => !p c) ∧ Below base w w' := by
  have hg := hG.lt
  have hbw : base ≤ w.heap.size := by omega
  have I := hide (index_from base g cap bg cs p w hg hb (holds_of_block hG hc) hl hP)
  have eg : ∀ args w, (callFunc 14 args).run Tryz.prog w = .ok (.enter 14 args) w := enters_of Tryz.func14 (by kernel_rfl) rfl
  have HG := hide hG
  have HC := hide hc
  have HP := hide hP
  clear hG hc hP
  unfold maxLen at hmax
  go_enter Tryz.func17, Tryz.ntmps17
  go_wp2_with (go_at_call 51; (with_reducible refine I.out.mono ?_); rintro x w1 ⟨h | ⟨k, hk, h, hp, ha⟩, hb1⟩ <;> (first | obtain ⟨rfl, hall⟩ := h | subst h))
  · go_ret
    rw [filter_none hall]
    refine ⟨_, rfl, .inr ⟨g, cap, rfl, hb, Nat.lt_of_lt_of_le hg hb1.size, hcap, by unfold maxLen; exact hmax, ?_⟩, hb1.mono (by omega)⟩
    exact holds_of_block (HG.out.below hb1 hg) HC.out
  · have hne1 : ((k : Int) == -1) = false := beq_eq_false_iff_ne.2 (by omega)
    have S0 := hide (struck_start (p := p) hs HC.out hk hp ha)
    have B1 := hide hb1
    have G1 := hide (HG.out.below hb1 hg)
    clear hp ha hb1 I
    go_loopw [5, 6] (fun a b wr => ∃ (i j : Nat) (cu : Array Value), a = .int .i64 i ∧ b = .int .i64 j ∧ Struck (p) cs cap i j cu ∧ HasR wr g 42 cu ∧ Below base w wr) (fun _ q _ => cs.length - (intOf q).toNat)
    case atStart => exact ⟨k, k + 1, cur, rfl, by go_num, S0.out, G1.out, B1.out.mono (by omega)⟩
    case round =>
      clear S0 B1 G1
      obtain ⟨i, j, cu, rfl, rfl, hS, hGr, hB⟩ := hrel
      have SS := hide hS
      have GG := hide hGr
      have BB := hide hB
      have hij := hS.lt
      have hje := hS.le
      have hsz := hS.size
      have hgr := hGr.lt
      clear hS hGr hB
      by_cases hlt : j < cs.length
      · have c0 : wr.cell? ⟨g, j * 4, none⟩ = some (.string cs[j]!.t) := (GG.out.cell _).trans (SS.out.rest j (Nat.le_refl _) hlt 0 _ rfl)
        have c1 : wr.cell? ⟨g, j * 4 + 1, none⟩ = some (.string cs[j]!.r) := (GG.out.cell _).trans (SS.out.rest j (Nat.le_refl _) hlt 1 _ rfl)
        have c2 : wr.cell? ⟨g, j * 4 + 2, none⟩ = some (.string cs[j]!.s) := (GG.out.cell _).trans (SS.out.rest j (Nat.le_refl _) hlt 2 _ rfl)
        have c3 : wr.cell? ⟨g, j * 4 + 3, none⟩ = some (.string cs[j]!.v) := (GG.out.cell _).trans (SS.out.rest j (Nat.le_refl _) hlt 3 _ rfl)
        have hskip := SS.out.skip hlt
        have hkeep := SS.out.keep hlt hcap
        generalize cs[j]! = x at c0 c1 c2 c3 hskip hkeep
        have bel : Below wr.heap.size wr (wr.alloc (.cells #[.string x.t, .string x.r, .string x.s, .string x.v] 42)) := (Below.refl _ wr).alloc (Nat.le_refl _) _
        have hcl := HP.out (wr.alloc (.cells #[.string x.t, .string x.r, .string x.s, .string x.v] 42)) x (BB.out.trans (bel.mono (Nat.le_trans hbw BB.out.size)))
        cases hq : p x with
        | true =>
          rw [hq] at hcl
          have CL := hide hcl
          have NX := hide (hskip hq)
          clear hcl hskip hkeep hq
          go_wp2_with (go_at_fn 14; (with_reducible refine CL.out.mono ?_); rintro e w2 ⟨rfl, hb2⟩)
          have hb3 := bel.trans (hb2.mono (by simp))
          go_roundw
          case rel => (repeat apply Exists.intro); exact ⟨⟨i, j + 1, cu, rfl, by go_num, NX.out, GG.out.below hb3 hgr, BB.out.trans (hb3.mono (by omega))⟩, rfl⟩
          case measure => simp [intOf]; omega
        | false =>
          rw [hq] at hcl
          have CL := hide hcl
          have NX := hide (hkeep hq)
          clear hcl hskip hkeep hq
          have at_ : ∀ c, c < 4 → ∃ o, cu[i * 4 + c]? = some o := fun c hc => ⟨_, Array.getElem?_eq_getElem (by omega)⟩
          obtain ⟨o0, p0⟩ := at_ 0 (by omega)
          obtain ⟨o1, p1⟩ := at_ 1 (by omega)
          obtain ⟨o2, p2⟩ := at_ 2 (by omega)
          obtain ⟨o3, p3⟩ := at_ 3 (by omega)
          have HX := HasR.new wr 42 #[.string x.t, .string x.r, .string x.s, .string x.v]
          have PP := hide (And.intro p0 (And.intro p1 (And.intro p2 p3)))
          clear at_ p0 p1 p2 p3
          go_wp2_with (go_at_fn 14; (with_reducible refine CL.out.mono ?_); rintro e w2 ⟨rfl, hb2⟩
                       have hb3 := bel.trans (hb2.mono (by simp))
                       have hX2 := HX.below hb2 (by simp)
                       have x0 := hX2.cell 0
                       have x1 := hX2.cell 1
                       have x2 := hX2.cell 2
                       have x3 := hX2.cell 3
                       simp at x0 x1 x2 x3
                       have hG2 := GG.out.below hb3 hgr
                       have y0 := (hG2.cell (i * 4)).trans PP.out.1
                       have y1 := (hG2.cell (i * 4 + 1)).trans PP.out.2.1
                       have y2 := (hG2.cell (i * 4 + 2)).trans PP.out.2.2.1
                       have y3 := (hG2.cell (i * 4 + 3)).trans PP.out.2.2.2
                       have f0 := hG2.free (i * 4)
                       have f1 := hG2.free (i * 4 + 1)
                       have f2 := hG2.free (i * 4 + 2)
                       have f3 := hG2.free (i * 4 + 3)
                       have GG2 := hide hG2
                       have BB2 := hide hb3
                       clear hG2 hb3 hb2 hX2)
          go_roundw
          case rel =>
            have hN : HasR (w2.setCells g (i * 4) (cellL x)) g 42 _ := HasR.sets (cellL x) (i * 4) w2 g 42 cu GG2.out (by show i * 4 + 4 ≤ cu.size; omega)
            have hBn : Below base w (w2.setCells g (i * 4) (cellL x)) := below_setCells (cellL x) (i * 4) w w2 g base (BB.out.trans (BB2.out.mono (by omega))) hb
            (repeat apply Exists.intro)
            exact ⟨⟨i + 1, j + 1, _, by go_num, by go_num, NX.out, hN, hBn⟩, rfl⟩
          case measure => simp [intOf]; omega
      · have hje2 : j = cs.length := by omega
        have hlen := SS.out.len
        rw [hje2, List.take_length] at hlen
        obtain ⟨vs, hvl, hclear⟩ := clear59 wr 0 g (i * 4) (cs.length - i) (cap - i) (by omega) cu GG.out (by omega)
        have KK := SS.out.kept
        rw [hje2, List.take_length] at KK
        have KH := hide KK
        have LH := hide hlen
        have VH := hide hvl
        clear KK hlen hvl
        go_wp2
        go_ret
        have hN := HasR.sets vs (i * 4) wr g 42 cu GG.out (by rw [VH.out]; omega)
        have hBn : Below base w (wr.setCells g (i * 4) vs) := below_setCells vs (i * 4) w wr g base BB.out hb
        refine ⟨_, rfl, .inr ⟨g, cap, by rw [LH.out]; rfl, hb, hN.lt, by rw [LH.out]; omega, by unfold maxLen; exact hmax, holds_of_block hN ?_⟩, hBn⟩
        have ht : (cu.toList.take (i * 4)).length = i * 4 := by rw [List.length_take, Array.length_toList]; omega
        rw [LH.out, List.toList_toArray, List.append_assoc, ← KH.out]
        exact List.take_left' ht
set_option maxRecDepth 100000 in
set_option maxHeartbeats 1000000 in
theorem indexNoneC (p : Option Addr) (c : Nat) (fv : Value) (w : World) : Calls Tryz.prog 51 #[.slice p 0 c, fv] w fun e w' => e = .returned (.int .i64 (-1)) ∧ w' = w := by
  go_enter Tryz.func51, Tryz.ntmps51
  go_wp2
  refine wp_loop_rounds 1 ?_
  rw [rounds_succ]
  go_wp2
  go_ret
  exact ⟨rfl, rfl⟩
set_option maxRecDepth 100000 in
set_option maxHeartbeats 1000000 in
theorem strikeNone (p : Option Addr) (c : Nat) (fv : Value) (w : World) : Calls Tryz.prog 17 #[.slice p 0 c, fv] w fun e w' => e = .returned (.slice p 0 c) ∧ w' = w := by
  have I := hide (indexNoneC p c fv w)
  go_enter Tryz.func17, Tryz.ntmps17
  go_wp2_with (go_at_call 51; (with_reducible refine I.out.mono ?_); rintro e w1 ⟨rfl, rfl⟩)
  go_ret
  exact ⟨rfl, rfl⟩
/-- slices.DeleteFunc over cells of a row of the calls' own. -/
theorem strike_any (base bg : Nat) (v : Value) (cs : List Cl) (p : Cl → Bool) (w : World) (ho : w.ownsRow base 42 4 v cs.length (cellsL cs)) (hl : cs.length ≤ 1000) (hP : PredFrom base bg p w) :
    Calls Tryz.prog 17 #[v, .func (.func 14) #[] #[.pointer (some ⟨bg, 0, none⟩)]] w fun x w' => ∃ u, x = .returned u ∧ RowC w' base u (cs.filter fun c => !p c) ∧ Below base w w' := by
  rcases ho.2 with ⟨rfl, h0⟩ | ⟨g, cap, cur, rfl, hb, hg, h1, h2, h3, h4⟩
  · have e : cs = [] := List.length_eq_zero_iff.1 h0
    subst e
    refine (strikeNone none 0 _ w).mono ?_
    rintro x w' ⟨rfl, rfl⟩
    exact ⟨_, rfl, .inl ⟨rfl, rfl⟩, Below.refl _ _⟩
  · exact strike_some base g cap bg cs cur p w hg h3 h1 h2 h4 hb hl hP
end Go.Proofs.YtkbaalenbpgheaaGreatDoor
