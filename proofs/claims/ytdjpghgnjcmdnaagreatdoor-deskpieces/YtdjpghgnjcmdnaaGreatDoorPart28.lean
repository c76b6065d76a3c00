/- Texts of this proof, one behind the other. -/
import Derived.Laws.StructEq
import Derived.Test.YtdjpghgnjcmdnaaGreatDoorPart27
/- What happens at a source, one event behind the other, as mathematics: what was done, and what each record is to the vault behind all of it. -/
namespace Go.Proofs.YtdjpghgnjcmdnaaGreatDoor
open Go.RowKit Go.Sort
/-- What a source came to: its keys, its rows, its records, what was done. -/
structure Hst where
  σ : Kept
  τ : Tab
  rs : List Rec
  ok : List Ev
def hst0 : Hst := ⟨kept0, tab0, [], []⟩
def hstep (sec : ByteArray) (s : Hst) (e : Ev) : Hst := if doesB s.σ s.τ e = true then ⟨tellK s.σ e, app e s.τ, s.rs ++ [tellR sec s.σ s.rs e], s.ok ++ [e]⟩ else s
theorem hstep_yes {sec : ByteArray} {s : Hst} {e : Ev} (h : doesB s.σ s.τ e = true) : hstep sec s e = ⟨tellK s.σ e, app e s.τ, s.rs ++ [tellR sec s.σ s.rs e], s.ok ++ [e]⟩ := if_pos h
theorem hstep_no {sec : ByteArray} {s : Hst} {e : Ev} (h : doesB s.σ s.τ e = false) : hstep sec s e = s := if_neg (by rw [h]; decide)
def hist (sec : ByteArray) (es : List Ev) (s : Hst) : Hst := es.foldl (hstep sec) s
theorem hist_take {sec : ByteArray} {es : List Ev} {k : Nat} {s : Hst} (h : k < es.length) : hist sec (es.take (k + 1)) s = hstep sec (hist sec (es.take k) s) (es.getD k ev0) := by
  unfold hist
  rw [List.take_succ_eq_append_getElem h, List.foldl_append, List.getD_eq_getElem?_getD, List.getElem?_eq_getElem h]
  rfl
theorem hist_append (sec : ByteArray) (l m : List Ev) (s : Hst) : hist sec (l ++ m) s = hist sec m (hist sec l s) := by
  unfold hist
  rw [List.foldl_append]
/-- A source to which events happened. -/
def Did (sec : ByteArray) (s : Hst) : Prop := ∃ es, s = hist sec es hst0
theorem Did.none {sec : ByteArray} : Did sec hst0 := ⟨[], rfl⟩
theorem Did.hist {sec : ByteArray} (es : List Ev) {s : Hst} (h : Did sec s) : Did sec (hist sec es s) := by
  obtain ⟨l, rfl⟩ := h
  exact ⟨l ++ es, (hist_append sec l es hst0).symm⟩
theorem Did.next {sec : ByteArray} {s : Hst} (h : Did sec s) (e : Ev) : Did sec (hstep sec s e) := Did.hist [e] h
theorem Did.run {sec : ByteArray} {P : Hst → Prop} (h1 : ∀ s e, Did sec s → P s → doesB s.σ s.τ e = true → P ⟨tellK s.σ e, app e s.τ, s.rs ++ [tellR sec s.σ s.rs e], s.ok ++ [e]⟩) : ∀ (es : List Ev) (s : Hst), Did sec s → P s → P (YtdjpghgnjcmdnaaGreatDoor.hist sec es s)
  | [], _, _, h => h
  | e :: es, s, hd, h => Did.run h1 es (hstep sec s e) (hd.next e) (by
    cases hq : doesB s.σ s.τ e
    · rw [hstep_no hq]; exact h
    · rw [hstep_yes hq]; exact h1 s e hd h hq)
/-- What is true of a new one, and behind each event that is done, is true. -/
theorem Did.ind {sec : ByteArray} {P : Hst → Prop} {s : Hst} (h : Did sec s) (h0 : P hst0) (h1 : ∀ s e, Did sec s → P s → doesB s.σ s.τ e = true → P ⟨tellK s.σ e, app e s.τ, s.rs ++ [tellR sec s.σ s.rs e], s.ok ++ [e]⟩) : P s := by
  obtain ⟨es, rfl⟩ := h
  exact Did.run h1 es hst0 Did.none h0
/-- Is a subject forgotten? -/
def lostB (l : List Ev) (s : ByteArray) : Bool := l.any (fun e => decide (e.k = 3) && decide (e.s = s))
/-- What a record is of its event, by a vault that has the keys σ. -/
structure RecOf (sec : ByteArray) (σ : Kept) (e : Ev) (r : Rec) (lost : Bool) : Prop where
  right : rightB e = true
  sub : r.s = e.s
  gen : r.g = 0 ↔ e.k = 3
  opn : e.k = 3 → r.d = textB e
  sl : e.k ≠ 3 → r.d = sealB (keyB sec r.s r.g) (nonceR r) (withR r) (textB e)
  there : e.k ≠ 3 → lost = false → σ r.s.data.toList = (r.g, true)
  left : e.k ≠ 3 → lost = true → r.g ≤ (σ r.s.data.toList).1 ∧ ¬ (r.g = (σ r.s.data.toList).1 ∧ (σ r.s.data.toList).2 = true)
theorem made_self (σ : Kept) (s : List UInt8) : (made σ s s).2 = true ∧ 1 ≤ (made σ s s).1 + (if (σ s).2 = true ∧ (σ s).1 = 0 then 1 else 0) := by
  unfold made
  rw [if_pos rfl]
  cases h : (σ s).2
  · simp
  · simp [h]; split <;> omega
/-- Who has a key had one. -/
def Sound (σ : Kept) : Prop := ∀ l, (σ l).2 = true → 1 ≤ (σ l).1
theorem Sound.made {σ : Kept} (h : Sound σ) (s : List UInt8) : Sound (made σ s) := by
  intro l hl
  unfold YtdjpghgnjcmdnaaGreatDoor.made at hl ⊢
  split
  · split
    · rename_i h2; exact h s h2
    · show 1 ≤ (σ s).1 + 1; omega
  · rename_i h1
    rw [if_neg h1] at hl
    exact h l hl
theorem Sound.gone {σ : Kept} (h : Sound σ) (s : List UInt8) : Sound (gone σ s) := by
  intro l hl
  unfold YtdjpghgnjcmdnaaGreatDoor.gone at hl ⊢
  split
  · rename_i h1; rw [if_pos h1] at hl; cases hl
  · rename_i h1
    rw [if_neg h1] at hl
    exact h l hl
theorem Sound.tellK {σ : Kept} (h : Sound σ) (e : Ev) : Sound (tellK σ e) := by
  unfold YtdjpghgnjcmdnaaGreatDoor.tellK
  split
  · exact h.gone _
  · exact h.made _
theorem Did.sound {sec : ByteArray} {s : Hst} (h : Did sec s) : Sound s.σ :=
  h.ind (P := fun s => Sound s.σ) (fun l hl => by cases hl) (fun _ e _ ih _ => ih.tellK e)
theorem sealR_d (sec : ByteArray) (σ : Kept) (r : Rec) (t : ByteArray) : (sealR sec σ r t).d = sealB (keyB sec (sealR sec σ r t).s (sealR sec σ r t).g) (nonceR (sealR sec σ r t)) (withR (sealR sec σ r t)) t := by
  have h1 : nonceR (sealR sec σ r t) = nonceR r := by simp only [nonceR, sealR]
  have h2 : withR (sealR sec σ r t) = withR { r with g := genR σ r.s } := by simp only [withR, sealR]
  rw [h1, h2]
  simp only [sealR]
theorem tell_new {sec : ByteArray} {σ : Kept} {rs : List Rec} {e : Ev} (hr : rightB e = true) (hs : Sound σ) : RecOf sec (tellK σ e) e (tellR sec σ rs e) false ∧ (tellR sec σ rs e).q = rs.length + 1 ∧ (tellR sec σ rs e).p = headR rs := by
  by_cases hk : e.k = 3
  · have e1 : tellR sec σ rs e = { newR rs e with d := textB e } := if_pos hk
    rw [e1]
    exact ⟨⟨hr, rfl, ⟨fun _ => hk, fun _ => rfl⟩, fun _ => rfl, fun h => absurd hk h, fun h => absurd hk h, fun h => absurd hk h⟩, rfl, rfl⟩
  · have e1 : tellR sec σ rs e = sealR sec σ (newR rs e) (textB e) := if_neg hk
    have e2 : tellK σ e = made σ e.s.data.toList := if_neg hk
    have g1 : 1 ≤ genR σ e.s ∧ (made σ e.s.data.toList e.s.data.toList).2 = true := by
      have h2 : (made σ e.s.data.toList e.s.data.toList).2 = true := (made_self σ e.s.data.toList).1
      exact ⟨hs.made e.s.data.toList _ h2, h2⟩
    rw [e1, e2]
    refine ⟨⟨hr, rfl, ⟨fun h => ?_, fun h => absurd h hk⟩, fun h => absurd h hk, fun _ => ?_, fun _ _ => ?_, fun _ h => by cases h⟩, rfl, rfl⟩
    · have : genR σ e.s = 0 := h
      omega
    · exact sealR_d sec σ (newR rs e) (textB e)
    · show made σ e.s.data.toList e.s.data.toList = (genR σ e.s, true)
      rw [← g1.2]
      rfl
theorem tell_old {sec : ByteArray} {σ : Kept} {e f : Ev} {r : Rec} {lost : Bool} (h : RecOf sec σ e r lost) : RecOf sec (tellK σ f) e r (lost || (decide (f.k = 3) && decide (f.s = e.s))) := by
  refine ⟨h.right, h.sub, h.gen, h.opn, h.sl, fun hk hl => ?_, fun hk hl => ?_⟩
  · rw [Bool.or_eq_false_iff] at hl
    have h1 := h.there hk hl.1
    unfold tellK
    split
    · rename_i h3
      have hne : f.s ≠ e.s := fun x => by rw [h3, x] at hl; simp at hl
      unfold gone
      rw [if_neg (fun x => hne (by rw [← h.sub]; exact (ba_eq x).symm))]
      exact h1
    · unfold made
      split
      · rename_i h4
        rw [← h4, h1]
        rfl
      · exact h1
  · by_cases h3 : f.k = 3
    · have e2 : tellK σ f = gone σ f.s.data.toList := if_pos h3
      rw [e2]
      unfold gone
      split
      · rename_i h4
        have hle : r.g ≤ (σ r.s.data.toList).1 := by
          cases lost
          · rw [h.there hk rfl]; exact Nat.le_refl _
          · exact (h.left hk rfl).1
        rw [← h4]
        exact ⟨hle, fun x => by cases x.2⟩
      · rename_i h4
        have : f.s ≠ e.s := fun x => h4 (by rw [h.sub, x])
        simp [h3, this] at hl
        exact h.left hk hl
    · have e2 : tellK σ f = made σ f.s.data.toList := if_neg h3
      rw [e2]
      have hl2 : lost = true := by simpa [h3] using hl
      have h5 := h.left hk hl2
      unfold made
      split
      · rename_i h4
        rw [← h4]
        split
        · exact h5
        · exact ⟨by show r.g ≤ (σ r.s.data.toList).1 + 1; omega, fun x => by have := x.1; simp at this; omega⟩
      · exact h5
theorem lostB_snoc (l : List Ev) (f : Ev) (s : ByteArray) : lostB (l ++ [f]) s = (lostB l s || (decide (f.k = 3) && decide (f.s = s))) := by simp [lostB]
theorem Did.recs {sec : ByteArray} {s : Hst} (h : Did sec s) : s.rs.length = s.ok.length ∧ ∀ i, i < s.ok.length → RecOf sec s.σ (s.ok.getD i ev0) (s.rs.getD i recZ) (lostB (s.ok.drop (i + 1)) (s.ok.getD i ev0).s) ∧ (s.rs.getD i recZ).q = i + 1 ∧ (s.rs.getD i recZ).p = headR (s.rs.take i) := by
  refine h.ind (P := fun s => s.rs.length = s.ok.length ∧ ∀ i, i < s.ok.length → RecOf sec s.σ (s.ok.getD i ev0) (s.rs.getD i recZ) (lostB (s.ok.drop (i + 1)) (s.ok.getD i ev0).s) ∧ (s.rs.getD i recZ).q = i + 1 ∧ (s.rs.getD i recZ).p = headR (s.rs.take i)) ⟨rfl, fun i hi => by simp [hst0] at hi⟩ ?_
  · intro s e hd ih hdo
    obtain ⟨hl, ih⟩ := ih
    refine ⟨by simp [hl], fun i hi => ?_⟩
    simp only at hi ⊢
    by_cases hi2 : i < s.ok.length
    · obtain ⟨h1, h2, h3⟩ := ih i hi2
      have hi3 : i < s.rs.length := by omega
      have a1 : (s.ok ++ [e]).getD i ev0 = s.ok.getD i ev0 := by simp [List.getD_eq_getElem?_getD, List.getElem?_append_left hi2]
      have a2 : (s.rs ++ [tellR sec s.σ s.rs e]).getD i recZ = s.rs.getD i recZ := by simp [List.getD_eq_getElem?_getD, List.getElem?_append_left hi3]
      have a3 : (s.ok ++ [e]).drop (i + 1) = s.ok.drop (i + 1) ++ [e] := List.drop_append_of_le_length (by omega)
      have a4 : (s.rs ++ [tellR sec s.σ s.rs e]).take i = s.rs.take i := List.take_append_of_le_length (by omega)
      rw [a1, a2, a3, a4, lostB_snoc]
      exact ⟨tell_old h1, h2, h3⟩
    · have hi4 : i = s.ok.length := by simp at hi; omega
      subst hi4
      have a1 : (s.ok ++ [e]).getD s.ok.length ev0 = e := by simp [List.getD_eq_getElem?_getD]
      have a2 : (s.rs ++ [tellR sec s.σ s.rs e]).getD s.ok.length recZ = tellR sec s.σ s.rs e := by rw [← hl]; simp [List.getD_eq_getElem?_getD]
      have a3 : (s.ok ++ [e]).drop (s.ok.length + 1) = [] := List.drop_eq_nil_of_le (by simp)
      have a4 : (s.rs ++ [tellR sec s.σ s.rs e]).take s.ok.length = s.rs := by rw [← hl]; simp
      rw [a1, a2, a3, a4, ← hl]
      exact tell_new (does_parts hdo).1 hd.sound
end Go.Proofs.YtdjpghgnjcmdnaaGreatDoor

/- What a law has behind its own done: a source, the events that were done, its rows behind each. -/
namespace Go.Proofs.YtdjpghgnjcmdnaaGreatDoor
open Go.RowKit Go.Sort
set_option linter.unusedSectionVars false
variable [Inhabited Cl] [Inhabited Ev]
theorem ownsRow_turned {w w' : World} {b : Nat} {t : TypeId} {n len : Nat} {v : Value} {l : List Value} {L : List Nat} (h : w.ownsRow b t n v len l) (s : Stirred L w w') (hn : ∀ g, v.ownBlock = some g → g ∉ L) : w'.ownsRow b t n v len l := by
  refine ⟨h.1, ?_⟩
  rcases h.2 with e | ⟨g, cap, cur, hv, hb, hg, r⟩
  · exact .inl e
  · exact .inr ⟨g, cap, cur, hv, hb, (s.block g (lt_of_block hg) (hn g (by rw [hv]; rfl))).trans hg, r⟩
theorem ownsRow_below {w w' : World} {b : Nat} {t : TypeId} {n len : Nat} {v : Value} {l : List Value} (h : w.ownsRow b t n v len l) (k : Below w.heap.size w w') : w'.ownsRow b t n v len l := ownsRow_turned h (Stirred.of_below k []) (fun _ _ => by simp)
theorem ownsRow_has {w : World} {b : Nat} {t : TypeId} {n len : Nat} {v : Value} {l : List Value} (h : w.ownsRow b t n v len l) {g : Nat} (hg : v.ownBlock = some g) : ∃ cur, HasR w g t cur := by
  rcases h.2 with ⟨e, _⟩ | ⟨g', cap, cur, e, hb, hh, _⟩
  · rw [e] at hg; cases hg
  · rw [e] at hg
    have hg1 : some g' = some g := hg
    simp only [Option.some.injEq] at hg1
    subst hg1
    exact ⟨cur, hh⟩
/-- A block of another type is none of a source's own. -/
theorem Src.apartR {B : Nat} {w : World} {sb fb vb : Nat} {mt mv : Option Nat} {v : Value} {nt nv : Nat} {sec : ByteArray} {σ : Kept} {τ : Tab} {rs : List Rec} (h : Src B w sb fb vb mt mv v nt nv sec σ τ rs) {g : Nat} {t : TypeId} {cs : Array Value} (hr : HasR w g t cs) (h1 : t ≠ 112) (h2 : t ≠ 156) (h3 : t ≠ 143) (h4 : t ≠ 74) : g ∉ ownS sb fb vb mt mv v := by
  intro hj
  unfold ownS at hj
  simp only [List.mem_cons, List.mem_append] at hj
  rcases hj with e | e | e | e | e | e
  · exact hr.apartT h.tab.row h1 e
  · exact hr.apartT h.feed.row h2 e
  · exact hr.apartT h.keys.row h3 e
  · obtain ⟨D, ho, _⟩ := h.tab.held g (by simpa using e)
    exact hr.noMap ho rfl
  · obtain ⟨D, ho, _⟩ := h.keys.held g (by simpa using e)
    exact hr.noMap ho rfl
  · obtain ⟨cur, hx⟩ := h.feed.block (g := g) (by simpa using e)
    exact hr.apartT hx h4 rfl
theorem RowC.aside {w w' : World} {base : Nat} {v : Value} {cs : List Cl} {L : List Nat} (h : RowC w base v cs) (t : Stirred L w w') (hL : ∀ g, v.ownBlock = some g → g ∉ L) : RowC w' base v cs := by
  rcases h with h | ⟨g, cap, rfl, hb, hg, h1, h2, h3⟩
  · exact .inl h
  · exact .inr ⟨g, cap, rfl, hb, Nat.lt_of_lt_of_le hg t.size, h1, h2, holdsK_same h3 (t.block g hg (hL g rfl))⟩
theorem RowC.own {w : World} {base : Nat} {v : Value} {cs : List Cl} (h : RowC w base v cs) {g : Nat} (hg : v.ownBlock = some g) : base ≤ g ∧ g < w.heap.size := by
  rcases h with ⟨rfl, _⟩ | ⟨g', cap, rfl, hb, hl, _⟩
  · cases hg
  · have e : some g' = some g := hg
    simp only [Option.some.injEq] at e
    subst e
    exact ⟨hb, hl⟩
/-- Events, cell by cell. -/
def evsL (es : List Ev) : List Value := es.flatMap evL
theorem evsL_snoc (es : List Ev) (e : Ev) : evsL (es ++ [e]) = evsL es ++ evL e := by simp [evsL]
theorem evsL_at : ∀ (es : List Ev) (j i : Nat), j < es.length → i < 5 → (evsL es)[j * 5 + i]? = (evL (es.getD j ev0))[i]?
  | [], j, i, h, _ => by simp at h
  | e :: es, j, i, h, hi => by
    have e0 : evsL (e :: es) = evL e ++ evsL es := rfl
    have e5 : (evL e).length = 5 := rfl
    rw [e0]
    cases j with
    | zero =>
      rw [List.getElem?_append_left (by omega)]
      simp
    | succ j =>
      rw [List.getElem?_append_right (by omega)]
      have ih := evsL_at es j i (by simpa using h) hi
      rw [e5, show (j + 1) * 5 + i - 5 = j * 5 + i by omega, ih]
      rfl
def nilS : Value := .slice none 0 0
structure Dn (B : Nat) (w : World) (σ : Kept) (τ : Tab) (rs : List Rec) (n : Nat) (ok : List Ev) (vok vrows : Value) (vals : List Value) : Prop where
  src : ∃ mt mv v, Src B w (B + 2) (B + 1) B mt mv v n n secB σ τ rs ∧ ∀ u ∈ vals, ∀ g, u.ownBlock = some g → g ∉ ownS (B + 2) (B + 1) B mt mv v
  noted : w.ownsRow B 69 5 vok ok.length (evsL ok)
  rows : w.ownsRow B 30 1 vrows vals.length vals
  off : ∀ u ∈ vals, ∀ g, u.ownBlock = some g → g < w.heap.size ∧ vok.ownBlock ≠ some g ∧ vrows.ownBlock ≠ some g
  cells : ∀ j, j < vals.length → ∃ ds, InOrd (runs (ok.take j) tab0) ds ∧ ds.length ≤ j ∧ RowC w 0 (vals.getD j nilS) ds
theorem getD_mem {α : Type} {l : List α} {j : Nat} {d : α} (h : j < l.length) : l.getD j d ∈ l := by
  rw [List.getD_eq_getElem?_getD, List.getElem?_eq_getElem h]
  exact List.getElem_mem h
theorem Dn.still {B : Nat} {w w' : World} {σ : Kept} {τ : Tab} {rs : List Rec} {n : Nat} {ok : List Ev} {vok vrows : Value} {vals : List Value} (h : Dn B w σ τ rs n ok vok vrows vals) (k : Below w.heap.size w w') : Dn B w' σ τ rs n ok vok vrows vals := by
  obtain ⟨mt, mv, v, hS, ho⟩ := h.src
  exact ⟨⟨mt, mv, v, hS.still k, ho⟩, ownsRow_below h.noted k, ownsRow_below h.rows k, fun u hu g hg => ⟨Nat.lt_of_lt_of_le (h.off u hu g hg).1 k.size, (h.off u hu g hg).2⟩, fun j hj => by
    obtain ⟨ds, h1, h2, h3⟩ := h.cells j hj
    exact ⟨ds, h1, h2, h3.below k (Nat.le_refl _)⟩⟩
/-- An event was done at the source. -/
theorem Dn.do {B : Nat} {w w' : World} {σ σ' : Kept} {τ τ' : Tab} {rs rs' : List Rec} {n n' : Nat} {ok : List Ev} {vok vrows : Value} {vals : List Value} {mt mv mt' mv' : Option Nat} {v v' : Value} (h : Dn B w σ τ rs n ok vok vrows vals) (hS : Src B w (B + 2) (B + 1) B mt mv v n n secB σ τ rs) (ho : ∀ u ∈ vals, ∀ g, u.ownBlock = some g → g ∉ ownS (B + 2) (B + 1) B mt mv v) (hS' : Src B w' (B + 2) (B + 1) B mt' mv' v' n' n' secB σ' τ' rs') (hN : ∀ j ∈ ownS (B + 2) (B + 1) B mt' mv' v', j ∈ ownS (B + 2) (B + 1) B mt mv v ∨ w.heap.size ≤ j) (t : Stirred (ownS (B + 2) (B + 1) B mt mv v) w w') : Dn B w' σ' τ' rs' n' ok vok vrows vals := by
  refine ⟨⟨mt', mv', v', hS', fun u hu g hg hm => ?_⟩, ?_, ?_, fun u hu g hg => ⟨Nat.lt_of_lt_of_le (h.off u hu g hg).1 t.size, (h.off u hu g hg).2⟩, fun j hj => ?_⟩
  · rcases hN g hm with e | e
    · exact ho u hu g hg e
    · have := (h.off u hu g hg).1
      omega
  · exact ownsRow_turned h.noted t (fun g hg => by
      obtain ⟨cur, hc⟩ := ownsRow_has h.noted hg
      exact hS.apartR hc (by decide) (by decide) (by decide) (by decide))
  · exact ownsRow_turned h.rows t (fun g hg => by
      obtain ⟨cur, hc⟩ := ownsRow_has h.rows hg
      exact hS.apartR hc (by decide) (by decide) (by decide) (by decide))
  · obtain ⟨ds, h1, h2, h3⟩ := h.cells j hj
    exact ⟨ds, h1, h2, h3.aside t (ho _ (getD_mem hj))⟩
/-- It is noted. -/
theorem Dn.note {B : Nat} {w w' : World} {σ : Kept} {τ : Tab} {rs : List Rec} {n : Nat} {ok : List Ev} {vok vrows : Value} {vals : List Value} {e : Ev} {g len cap : Nat} (h : Dn B w σ τ rs n ok vok vrows vals) (hv : vals.length = ok.length + 1) (hl : len = ok.length + 1) (ho : w'.ownsRow B 69 5 (.slice (some ⟨g, 0, none⟩) len cap) len (evsL ok ++ evL e)) (hg : w.grownBy w' vok.ownBlock) (hat : vok.ownBlock = some g ∨ w.heap.size ≤ g) : Dn B w' σ τ rs n (ok ++ [e]) (.slice (some ⟨g, 0, none⟩) len cap) vrows vals := by
  have t := Stirred.of_grownO hg
  obtain ⟨mt, mv, v, hS, hoff⟩ := h.src
  have nr : ∀ g', vrows.ownBlock = some g' → g' ∉ vok.ownBlock.toList := fun g' hg' hm => by
    obtain ⟨c1, x1⟩ := ownsRow_has h.rows hg'
    obtain ⟨c2, x2⟩ := ownsRow_has h.noted (g := g') (by simpa using hm)
    exact x1.apartT x2 (by decide) rfl
  have nu : ∀ u ∈ vals, ∀ g', u.ownBlock = some g' → g' ∉ vok.ownBlock.toList := fun u hu g' hg' hm => (h.off u hu g' hg').2.1 (by simpa using hm)
  refine ⟨⟨mt, mv, v, hS.turned t (fun j hj hm => ?_), hoff⟩, ?_, ownsRow_turned h.rows t nr, fun u hu g' hg' => ⟨Nat.lt_of_lt_of_le (h.off u hu g' hg').1 hg.size, fun e1 => ?_, (h.off u hu g' hg').2.2⟩, fun j hj => ?_⟩
  · obtain ⟨c2, x2⟩ := ownsRow_has h.noted (g := j) (by simpa using hm)
    exact hS.apartR x2 (by decide) (by decide) (by decide) (by decide) hj
  · rw [evsL_snoc, List.length_append, List.length_singleton, ← hl]
    exact ho
  · have e2 : some g = some g' := e1
    simp only [Option.some.injEq] at e2
    subst e2
    rcases hat with e3 | e3
    · exact (h.off u hu g hg').2.1 e3
    · have := (h.off u hu g hg').1
      omega
  · obtain ⟨ds, h1, h2, h3⟩ := h.cells j hj
    refine ⟨ds, ?_, h2, h3.aside t (nu _ (getD_mem hj))⟩
    rw [List.take_append_of_le_length (by omega)]
    exact h1
/-- Its rows are noted. -/
theorem Dn.row {B : Nat} {w w1 w' : World} {σ : Kept} {τ : Tab} {rs : List Rec} {n : Nat} {ok : List Ev} {vok vrows : Value} {vals : List Value} {u : Value} {ds : List Cl} {g len cap : Nat} (h : Dn B w σ τ rs n ok vok vrows vals) (hb : Below w.heap.size w w1) (hv : vals.length = ok.length) (hl : len = vals.length + 1) (hd : InOrd (runs ok tab0) ds) (hds : ds.length ≤ ok.length) (hr : RowC w1 w.heap.size u ds) (ho : w'.ownsRow B 30 1 (.slice (some ⟨g, 0, none⟩) len cap) len (vals ++ [u])) (hg : w1.grownBy w' vrows.ownBlock) (hat : vrows.ownBlock = some g ∨ w1.heap.size ≤ g) : Dn B w' σ τ rs n ok vok (.slice (some ⟨g, 0, none⟩) len cap) (vals ++ [u]) := by
  have t := Stirred.of_grownO hg
  have h1 := h.still hb
  obtain ⟨mt, mv, v, hS0, hoff0⟩ := h.src
  have hS := hS0.still hb
  have nok : ∀ g', vok.ownBlock = some g' → g' ∉ vrows.ownBlock.toList := fun g' hg' hm => by
    obtain ⟨c1, x1⟩ := ownsRow_has h1.noted hg'
    obtain ⟨c2, x2⟩ := ownsRow_has h1.rows (g := g') (by simpa using hm)
    exact x1.apartT x2 (by decide) rfl
  have nr : ∀ u' ∈ vals, ∀ g', u'.ownBlock = some g' → g' ∉ vrows.ownBlock.toList := fun u' hu g' hg' hm => (h1.off u' hu g' hg').2.2 (by simpa using hm)
  have nu : ∀ g', u.ownBlock = some g' → g' ∉ vrows.ownBlock.toList := fun g' hg' hm => by
    have a := (hr.own hg').1
    have b := (h.rows.lt g' (by simpa using hm)).2
    omega
  refine ⟨⟨mt, mv, v, hS.turned t (fun j hj hm => ?_), fun u' hu' g' hg' hm => ?_⟩, ownsRow_turned h1.noted t nok, ?_, fun u' hu' g' hg' => ?_, fun j hj => ?_⟩
  · obtain ⟨c2, x2⟩ := ownsRow_has h1.rows (g := j) (by simpa using hm)
    exact hS.apartR x2 (by decide) (by decide) (by decide) (by decide) hj
  · rcases List.mem_append.1 hu' with hu' | hu'
    · exact hoff0 u' hu' g' hg' hm
    · simp at hu'
      subst hu'
      have a := (hr.own hg').1
      have b := hS0.oldO g' hm
      omega
  · rw [List.length_append, List.length_singleton, ← hl]
    exact ho
  · have far : g' < w1.heap.size → vrows.ownBlock ≠ some g' → (Value.slice (some ⟨g, 0, none⟩) len cap).ownBlock ≠ some g' := fun l1 l2 e1 => by
      have e2 : some g = some g' := e1
      simp only [Option.some.injEq] at e2
      subst e2
      rcases hat with e3 | e3
      · exact l2 e3
      · omega
    rcases List.mem_append.1 hu' with hu' | hu'
    · obtain ⟨a, b, c⟩ := h1.off u' hu' g' hg'
      exact ⟨Nat.lt_of_lt_of_le a hg.size, b, far a c⟩
    · simp at hu'
      subst hu'
      obtain ⟨a, b⟩ := hr.own hg'
      refine ⟨Nat.lt_of_lt_of_le b hg.size, fun e1 => ?_, far b (fun e1 => ?_)⟩
      · have := (h.noted.lt g' e1).2
        omega
      · have := (h.rows.lt g' e1).2
        omega
  · rw [List.length_append, List.length_singleton] at hj
    by_cases hj2 : j < vals.length
    · obtain ⟨ds', a, b, c⟩ := h1.cells j hj2
      have e1 : (vals ++ [u]).getD j nilS = vals.getD j nilS := by simp [List.getD_eq_getElem?_getD, List.getElem?_append_left hj2]
      rw [e1]
      exact ⟨ds', a, b, c.aside t (nr _ (getD_mem hj2))⟩
    · have ej : j = vals.length := by omega
      subst ej
      have e1 : (vals ++ [u]).getD vals.length nilS = u := by simp [List.getD_eq_getElem?_getD]
      rw [e1, hv, List.take_length]
      exact ⟨ds, hd, hds, (hr.aside t nu).mono (Nat.zero_le _)⟩
theorem Did.tau {sec : ByteArray} {s : Hst} (h : Did sec s) : s.τ = runs s.ok tab0 := by
  refine h.ind (P := fun s => s.τ = runs s.ok tab0) rfl ?_
  intro s e _ ih _
  simp only
  rw [runs_snoc, ← ih]
theorem info35 : (Tryz.prog.info? 69).map (fun i => (i.zero, i.size, i.bytes)) = some (some (.agg #[.int .i64 0, .string ⟨#[]⟩, .string ⟨#[]⟩, .string ⟨#[]⟩, .string ⟨#[]⟩]), 5, 72) := by kernel_rfl
theorem info57 : (Tryz.prog.info? 30).map (fun i => (i.zero, i.size, i.bytes)) = some (some (.slice none 0 0), 1, 24) := by kernel_rfl
end Go.Proofs.YtdjpghgnjcmdnaaGreatDoor

/- Two rows of cells that are the same, held against each other by the law. -/
namespace Go.Proofs.YtdjpghgnjcmdnaaGreatDoor
open Go.RowKit Go.Sort
attribute [local go_sem ↓] Go.wp_at_zero Go.wp_at_succ
set_option linter.unusedSectionVars false
variable [Inhabited Cl]
theorem four_of {W : World} {blk : Nat} {d : Array Cl} {i : Nat} (h : HoldsK cellL 4 W blk 0 d) (hi : i < d.size) : W.cell? ⟨blk, i * 4, none⟩ = some (.string d[i]!.t) ∧ W.cell? ⟨blk, i * 4 + 1, none⟩ = some (.string d[i]!.r) ∧ W.cell? ⟨blk, i * 4 + 2, none⟩ = some (.string d[i]!.s) ∧ W.cell? ⟨blk, i * 4 + 3, none⟩ = some (.string d[i]!.v) := by
  refine ⟨?_, ?_, ?_, ?_⟩
  · have := (h.cell (i := i) (c := 0) hi (by omega)).1
    simpa [cellL] using this
  · have := (h.cell (i := i) (c := 1) hi (by omega)).1
    simpa [cellL] using this
  · have := (h.cell (i := i) (c := 2) hi (by omega)).1
    simpa [cellL] using this
  · have := (h.cell (i := i) (c := 3) hi (by omega)).1
    simpa [cellL] using this
theorem RowC.at {w : World} {base n cap k : Nat} {p : Option Addr} {l : List Cl} (h : RowC w base (.slice p n cap) l) (hk : k < l.length) : ∃ g, p = some ⟨g, 0, none⟩ ∧ g < w.heap.size ∧ l.length ≤ cap ∧ w.cell? ⟨g, k * 4, none⟩ = some (.string l[k]!.t) ∧ w.cell? ⟨g, k * 4 + 1, none⟩ = some (.string l[k]!.r) ∧ w.cell? ⟨g, k * 4 + 2, none⟩ = some (.string l[k]!.s) ∧ w.cell? ⟨g, k * 4 + 3, none⟩ = some (.string l[k]!.v) := by
  rcases h with ⟨_, rfl⟩ | ⟨g, cap', e, h1, h2, h3, h4, h5⟩
  · simp at hk
  · injection e with e1 e2 e3
    subst e1 e3
    obtain ⟨c0, c1, c2, c3⟩ := four_of h5 (i := k) (by rw [List.size_toArray]; exact hk)
    have e : l.toArray[k]! = l[k]! := by simp
    rw [e] at c0 c1 c2 c3
    exact ⟨g, rfl, h2, h3, c0, c1, c2, c3⟩
theorem RowC.slice {w : World} {base : Nat} {v : Value} {l : List Cl} (h : RowC w base v l) : ∃ p cap, v = .slice p l.length cap := by
  rcases h with ⟨rfl, rfl⟩ | ⟨g, cap, rfl, _⟩
  · exact ⟨_, _, rfl⟩
  · exact ⟨_, _, rfl⟩
theorem below_dn {B : Nat} {a w : World} (h : Below B a w) (n : Nat) : Below B a (w.drewN n) := h.trans ⟨rfl, rfl, rfl, Nat.le_refl _, fun _ _ => rfl⟩
end Go.Proofs.YtdjpghgnjcmdnaaGreatDoor

/- What was told is read: feed.Open of a source's own record; events held against each other; who is forgotten further on. -/
namespace Go.Proofs.YtdjpghgnjcmdnaaGreatDoor
open Go.RowKit Go.Sort
attribute [local go_sem ↓] Go.wp_at_zero Go.wp_at_succ
set_option linter.unusedSectionVars false
variable [Inhabited Cl] [Inhabited Ev]
theorem held35 : Tryz.prog.stoodInHeld 69 = false := by kernel_rfl
theorem fields35 : Tryz.prog.underlying 69 = some (.struct (Tryz.prog.fieldsOf 69)) := by kernel_rfl
theorem guard35 : Tryz.prog.eqGuardType Tryz.prog.depth 69 = false := by kernel_rfl
theorem ev_same (k : Int) (s t r v : ByteArray) (w : World) : (Op.equalIn 10000 69 (.agg #[.int .i64 k, .string s, .string t, .string r, .string v]) (.agg #[.int .i64 k, .string s, .string t, .string r, .string v])).run Tryz.prog w = .ok true w := by
  rw [run_equalIn_struct w 9999 69 _ _ fields35 held35]
  simp [Program.fieldsOf, Tryz.underlying69, Op.eqFields, go_sem, run_equalIn_int, run_equalIn_string, Tryz.underlying3, Tryz.underlying9]
theorem ev_neq (k : Int) (s t r v : ByteArray) (w : World) : (binOp .neq 69 (.agg #[.int .i64 k, .string s, .string t, .string r, .string v]) (.agg #[.int .i64 k, .string s, .string t, .string r, .string v])).run Tryz.prog w = .ok (.bool false) w := by
  rw [run_neq_struct, ev_same]; rfl
/-- A record of a key that is there, or an open one: what was told. -/
theorem open_held {B : Nat} {w : World} {sb fb vb : Nat} {mt mv : Option Nat} {v : Value} {nt nv : Nat} {sec : ByteArray} {σ : Kept} {τ : Tab} {rs : List Rec} (S : Src B w sb fb vb mt mv v nt nv sec σ τ rs) (T : Tabs w) {e : Ev} {r : Rec} {lost : Bool} (h : RecOf sec σ e r lost) (hf : Fit r) (hl : ¬ (e.k ≠ 3 ∧ lost = true)) :
    Calls Tryz.prog 126 #[.pointer (some ⟨vb, 0, none⟩), .agg #[.int .i64 (r.q : Int), .string r.s, .int .i64 (r.g : Int), .string r.p, .string r.d]] w fun x w' => x = .returned (.tuple #[.agg #[.int .i64 e.k, .string e.s, .string e.t, .string e.r, .string e.v], .nilIface]) ∧ Below w.heap.size w w' := by
  refine open_ok25 _ r e w h.right h.sub.symm h.gen.symm T.l (fun wx hb => T.m.below hb T.m.lt) (fun wx hb => ?_)
  by_cases hk : e.k = 3
  · have := unseal_open (.pointer (some ⟨vb, 0, none⟩)) r wx (h.gen.2 hk)
    rw [h.opn hk] at this
    rw [h.opn hk]
    exact this
  · have hlo : lost = false := by
      cases lost
      · rfl
      · exact absurd ⟨hk, rfl⟩ hl
    have ht := h.there hk hlo
    have hg : 1 ≤ r.g := Nat.pos_of_ne_zero (fun e0 => hk (h.gen.1 e0))
    exact unseal_there vb mv sec nv σ r (textB e) wx hf (S.still hb).keys hg (by rw [ht]) (by rw [ht]) (text_size h.right) (T.k.below hb T.k.lt) (h.sl hk)
/-- Of all others nothing. -/
theorem open_lost {B : Nat} {w : World} {sb fb vb : Nat} {mt mv : Option Nat} {v : Value} {nt nv : Nat} {sec : ByteArray} {σ : Kept} {τ : Tab} {rs : List Rec} (S : Src B w sb fb vb mt mv v nt nv sec σ τ rs) {e : Ev} {r : Rec} {lost : Bool} (h : RecOf sec σ e r lost) (hf : Fit r) (hk : e.k ≠ 3) (hl : lost = true) :
    Calls Tryz.prog 126 #[.pointer (some ⟨vb, 0, none⟩), .agg #[.int .i64 (r.q : Int), .string r.s, .int .i64 (r.g : Int), .string r.p, .string r.d]] w fun x w' => x = .returned (.tuple #[.agg #[.int .i64 0, .string ⟨#[]⟩, .string ⟨#[]⟩, .string ⟨#[]⟩, .string ⟨#[]⟩], .iface 25 (.int .i64 8)]) ∧ Below w.heap.size w w' := by
  obtain ⟨h1, h2⟩ := h.left hk hl
  have hg : 1 ≤ r.g := Nat.pos_of_ne_zero (fun e0 => hk (h.gen.1 e0))
  exact open_err _ r 8 ⟨#[]⟩ w (fun wx hb => unseal_lost vb mv sec nv σ r wx hf.s (S.still hb).keys hg h1 h2)
/-- Whichever of both: one answer. -/
theorem open_either {sec : ByteArray} {σ : Kept} {e : Ev} {r : Rec} {lost : Bool} (h : RecOf sec σ e r lost) (hf : Fit r) : ∃ (x : Ev) (er : Value), ((e.k ≠ 3 ∧ lost = true ∧ x = ⟨0, ⟨#[]⟩, ⟨#[]⟩, ⟨#[]⟩, ⟨#[]⟩⟩ ∧ er = .iface 25 (.int .i64 8)) ∨ (¬ (e.k ≠ 3 ∧ lost = true) ∧ x = e ∧ er = .nilIface)) ∧
    ∀ (B : Nat) (w : World) (sb fb vb : Nat) (mt mv : Option Nat) (v : Value) (nt nv : Nat) (τ : Tab) (rs : List Rec), Src B w sb fb vb mt mv v nt nv sec σ τ rs → Tabs w → Calls Tryz.prog 126 #[.pointer (some ⟨vb, 0, none⟩), .agg #[.int .i64 (r.q : Int), .string r.s, .int .i64 (r.g : Int), .string r.p, .string r.d]] w fun y w' => y = .returned (.tuple #[.agg #[.int .i64 x.k, .string x.s, .string x.t, .string x.r, .string x.v], er]) ∧ Below w.heap.size w w' := by
  by_cases hl : e.k ≠ 3 ∧ lost = true
  · exact ⟨_, _, .inl ⟨hl.1, hl.2, rfl, rfl⟩, fun B w sb fb vb mt mv v nt nv τ rs S _ => open_lost S h hf hl.1 hl.2⟩
  · exact ⟨e, .nilIface, .inr ⟨hl, rfl, rfl⟩, fun B w sb fb vb mt mv v nt nv τ rs S T => open_held S T h hf hl⟩
theorem evRow_of {w : World} {b : Nat} {v : Value} {es : List Ev} (h : w.ownsRow b 69 5 v es.length (evsL es)) : EvRow w v es := by
  rcases h.2 with ⟨e, e0⟩ | ⟨g, cap, cur, hv, hb, hg, a1, a2, a3, a4⟩
  · exact .inl ⟨⟨none, 0, e⟩, List.eq_nil_of_length_eq_zero e0⟩
  · refine .inr ⟨g, 0, cap, hv, a1, lt_of_block hg, fun j hj i u hu => ?_⟩
    have hi : i < 5 := (List.getElem?_eq_some_iff.1 hu).1
    have hj5 : j * 5 + i < es.length * 5 := by omega
    rw [Nat.zero_add, cell_of_row w g _ cur 69 (0, 0) hg, ← Array.getElem?_toList, ← List.getElem?_take_of_lt (j := es.length * 5) hj5, a4, evsL_at es j i hj hi, List.getD_eq_getElem?_getD, List.getElem?_eq_getElem hj]
    rw [getElem!_pos es j hj] at hu
    exact hu
theorem drop_at {es : List Ev} {m j : Nat} (h : m + j < es.length) : (es.drop m)[j]! = es[m + j]! := by
  rw [getElem!_pos es (m + j) h, getElem!_pos (es.drop m) j (by rw [List.length_drop]; omega), List.getElem_drop]
theorem EvRow.drop {w : World} {b off n cap : Nat} {es : List Ev} {m : Nat} {cap' : Nat} (h : EvRow w (.slice (some ⟨b, off, none⟩) n cap) es) (hm : m < es.length) (hc : es.length - m ≤ cap') : EvRow w (.slice (some ⟨b, off + m * 5, none⟩) (es.length - m) cap') (es.drop m) := by
  rcases h with ⟨_, rfl⟩ | ⟨b', off', cap2, hv, hc2, hb, hx⟩
  · simp at hm
  · simp only [Value.slice.injEq, Option.some.injEq, Addr.mk.injEq, and_true] at hv
    obtain ⟨⟨rfl, rfl⟩, _, _⟩ := hv
    refine .inr ⟨b, off + m * 5, cap', by rw [List.length_drop], by rw [List.length_drop]; exact hc, hb, fun j hj i u hu => ?_⟩
    rw [List.length_drop] at hj
    rw [drop_at (by omega)] at hu
    have := hx (m + j) (by omega) i u hu
    rw [← this]
    congr 2
    omega
theorem EvRow.tail {w : World} {b off cap : Nat} {es : List Ev} {m : Nat} (h : EvRow w (.slice (some ⟨b, off, none⟩) es.length cap) es) (hm : m ≤ es.length) (hc : es.length ≤ cap) : EvRow w (.slice (some ⟨b, off + m * 5, none⟩) (es.length - m) (cap - m)) (es.drop m) := by
  by_cases h0 : m < es.length
  · exact h.drop h0 (by omega)
  · have : m = es.length := by omega
    subst this
    exact .inl ⟨⟨_, _, by rw [Nat.sub_self]⟩, List.drop_length⟩
/-- A Gone of somebody. -/
def goneS (s : ByteArray) (x : Ev) : Bool := decide (x.k = 3) && decide (x.s = s)
theorem lostB_any (l : List Ev) (s : ByteArray) : l.any (goneS s) = lostB l s := rfl
end Go.Proofs.YtdjpghgnjcmdnaaGreatDoor
