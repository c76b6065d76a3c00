/- Texts of this proof, one behind the other. -/
import Derived.Test.YtedcbjefkhgiiabGreatDoorPart25
/- The document's rows in memory; its list as an event is gone through. -/
namespace Go.Proofs.YtedcbjefkhgiiabGreatDoor
open Go.RowKit Go.Sort
set_option linter.unusedSectionVars false
variable [Inhabited Cl]
/-- The document's rows lie in a row of their own, or there are none. -/
def RefRow (w : World) (lo : Nat) (v : Value) (l : List Cl) : Prop :=
  (v = .slice none 0 0 ∧ l = []) ∨ ∃ g cap, v = .slice (some ⟨g, 0, none⟩) l.length cap ∧ l ≠ [] ∧ lo ≤ g ∧ g < w.heap.size ∧ l.length ≤ cap ∧ HoldsK cellL 4 w g 0 l.toArray
theorem RefRow.turned {w w' : World} {lo : Nat} {v : Value} {l : List Cl} {L : List Nat} (h : RefRow w lo v l) (t : Stirred L w w') (hL : ∀ g, v.ownBlock = some g → g ∉ L) : RefRow w' lo v l := by
  rcases h with h | ⟨g, cap, rfl, h1, h2, h3, h4, h5⟩
  · exact .inl h
  · exact .inr ⟨g, cap, rfl, h1, h2, Nat.lt_of_lt_of_le h3 t.size, h4, holdsK_same h5 (t.block g h3 (hL g rfl))⟩
theorem RefRow.below {w w' : World} {lo : Nat} {v : Value} {l : List Cl} (h : RefRow w lo v l) (k : Below w.heap.size w w') : RefRow w' lo v l := h.turned (Stirred.of_below k []) (fun g _ => by simp)
theorem RefRow.mono {w : World} {lo lo' : Nat} {v : Value} {l : List Cl} (h : RefRow w lo v l) (hl : lo' ≤ lo) : RefRow w lo' v l := by
  rcases h with h | ⟨g, cap, rfl, h1, h2, r⟩
  · exact .inl h
  · exact .inr ⟨g, cap, rfl, h1, Nat.le_trans hl h2, r⟩
theorem RefRow.rowC {w : World} {lo : Nat} {v : Value} {l : List Cl} (h : RefRow w lo v l) : ∃ p cap, v = .slice p l.length cap := by
  rcases h with ⟨rfl, rfl⟩ | ⟨g, cap, rfl, _⟩
  · exact ⟨_, _, rfl⟩
  · exact ⟨_, _, rfl⟩
theorem RefRow.at {w : World} {lo n cap k : Nat} {p : Option Addr} {l : List Cl} (h : RefRow w lo (.slice p n cap) l) (hk : k < l.length) : ∃ g, p = some ⟨g, 0, none⟩ ∧ g < w.heap.size ∧ lo ≤ g ∧ l.length ≤ cap ∧ w.cell? ⟨g, k * 4, none⟩ = some (.string l[k]!.t) ∧ w.cell? ⟨g, k * 4 + 1, none⟩ = some (.string l[k]!.r) ∧ w.cell? ⟨g, k * 4 + 2, none⟩ = some (.string l[k]!.s) ∧ w.cell? ⟨g, k * 4 + 3, none⟩ = some (.string l[k]!.v) := by
  rcases h with ⟨_, rfl⟩ | ⟨g, cap', e, h1, h2, h3, h4, h5⟩
  · simp at hk
  · injection e with e1 e2 e3
    subst e1 e3
    obtain ⟨c0, c1, c2, c3⟩ := four_of h5 (i := k) (by rw [List.size_toArray]; exact hk)
    have e : l.toArray[k]! = l[k]! := by simp
    rw [e] at c0 c1 c2 c3
    exact ⟨g, rfl, h3, h2, h4, c0, c1, c2, c3⟩
/-- No row of cells is a map. -/
theorem RefRow.map {w : World} {lo : Nat} {v : Value} {l : List Cl} (h : RefRow w lo v l) {m n : Nat} {D : DataW Unit} {k : TypeId} (ho : w.ownsMap Tryz.prog k cellElem m n D) : ∀ g, v.ownBlock = some g → g ≠ m := by
  rcases h with ⟨rfl, rfl⟩ | ⟨g, cap, rfl, h1, h2, h3, h4, h5⟩
  · intro g e; cases e
  · intro g' e
    cases e
    intro e1
    subst e1
    obtain ⟨es, clock, hh, _⟩ := ho
    have hp : 0 < l.toArray.size := by rw [List.size_toArray]; exact List.length_pos_iff.2 h1
    have hc := (four_of h5 (i := 0) hp).1
    simp [World.cell?, hh] at hc
/-- What an event leaves of a list, ahead of a Put's own row. -/
def kept (e : Ev) (l : List Cl) : List Cl := l.filter (fun c => !outB e c)
theorem kept_take {e : Ev} {l : List Cl} {k : Nat} (h : k < l.length) : kept e (l.take (k + 1)) = kept e (l.take k) ++ if outB e l[k]! = true then [] else [l[k]!] := by
  unfold kept
  rw [List.take_succ_eq_append_getElem h, List.filter_append, getElem!_pos l k h]
  cases hb : outB e l[k] <;> simp [hb]
theorem kept_len (e : Ev) (l : List Cl) : (kept e l).length ≤ l.length := List.length_filter_le _ _
/-- The walk through the list: the event's own box, the box of the list that is being made, and that list's row. -/
structure Lst (w : World) (L : Nat) (e : Ev) (wr : World) (u : Value) (ms : List Cl) : Prop where
  bel : Below w.heap.size w wr
  ev : HasR wr w.heap.size 33 #[.int .i64 e.k, .string e.s, .string e.t, .string e.r, .string e.v]
  box : HasR wr L 25 #[u]
  own : wr.ownsRow (L + 1) 44 4 u ms.length (cellsL ms)
  nil : ms = [] → u = .slice none 0 0
  lt : w.heap.size < L
theorem grownBy_of_below {w w' : World} (h : Below w.heap.size w w') (r : Option Nat) : w.grownBy w' r := ⟨h.os, h.tape, h.output, h.size, fun k hk _ => h.block k hk⟩
theorem Lst.still {w wr w' : World} {L : Nat} {e : Ev} {u : Value} {ms : List Cl} (h : Lst w L e wr u ms) (k : Below wr.heap.size wr w') : Lst w L e w' u ms := by
  refine ⟨h.bel.trans (k.mono h.bel.size), h.ev.below k h.ev.lt, h.box.below k h.box.lt, ?_, h.nil, h.lt⟩
  refine h.own.kept (grownBy_of_below k (some wr.heap.size)) ?_
  cases e : u.ownBlock with
  | none => exact .inl rfl
  | some g => exact .inr (fun e1 => by have := (h.own.lt g e).2; cases e1; omega)
theorem Lst.start {w w1 : World} {e : Ev} (hb : Below w.heap.size w w1) (he : HasR w1 w.heap.size 33 #[.int .i64 e.k, .string e.s, .string e.t, .string e.r, .string e.v]) : Lst w w1.heap.size e (w1.alloc (.cells #[.slice none 0 0] 25)) (.slice none 0 0) [] :=
  ⟨hb.alloc hb.size _, he.alloc _, HasR.new w1 25 _, World.ownsRow_nil _ _ _ _, fun _ => rfl, he.lt⟩
/-- Behind an append and the store of what it answers. -/
theorem Lst.push {w wr w3 : World} {L : Nat} {e : Ev} {u u' : Value} {ms : List Cl} {c : Cl} (h : Lst w L e wr u ms) (hg : wr.grownBy w3 u.ownBlock) (ho : w3.ownsRow (L + 1) 44 4 u' (ms.length + 1) (cellsL ms ++ cellL c)) : Lst w L e (w3.setCell ⟨L, 0, none⟩ u') u' (ms ++ [c]) := by
  have hb := h.bel.size
  have hl := h.box.lt
  have hlt := h.lt
  have nL : some L ≠ u.ownBlock := fun e1 => by have := (h.own.lt L e1.symm).1; omega
  have nE : some w.heap.size ≠ u.ownBlock := fun e1 => by have := (h.own.lt _ e1.symm).1; omega
  have b3 : Below w.heap.size w w3 := h.bel.grown hg h.bel.size (fun k hk => by have := (h.own.lt k hk).1; omega)
  have x3 : HasR w3 L 25 #[u] := (hg.block L hl nL).trans h.box
  have e3 : HasR w3 w.heap.size 33 #[.int .i64 e.k, .string e.s, .string e.t, .string e.r, .string e.v] := (hg.block _ h.ev.lt nE).trans h.ev
  have t : Stirred [L] w3 (w3.setCell ⟨L, 0, none⟩ u') := Stirred.setCell w3 ⟨L, 0, none⟩ u'
  refine ⟨b3.trans (t.below b3.size (fun k hk => by simp at hk; omega)), e3.turned t (by simp; omega), ?_, ?_, fun h0 => by simp at h0, hlt⟩
  · have := x3.set 0 u'
    exact this
  · have hk : w3.grownBy (w3.setCell ⟨L, 0, none⟩ u') (some L) := ⟨t.os, t.tape, t.output, t.size, fun k hk hn => t.block k hk (by simp; intro e1; exact hn (by rw [e1]))⟩
    rw [List.length_append, cellsL_snoc]
    refine ho.kept hk ?_
    cases e : u'.ownBlock with
    | none => exact .inl rfl
    | some g => exact .inr (fun e1 => by have := (ho.lt g e).1; cases e1; omega)
end Go.Proofs.YtedcbjefkhgiiabGreatDoor

/- The document's sort of the list that it has made. -/
namespace Go.Proofs.YtedcbjefkhgiiabGreatDoor
open Go.RowKit Go.Sort
attribute [local go_sem ↓] Go.wp_at_zero Go.wp_at_succ
set_option linter.unusedSectionVars false
variable [Inhabited Cl]
theorem Lst.after {w wr w3 : World} {L : Nat} {e : Ev} {u : Value} {ms : List Cl} (h : Lst w L e wr u ms) (hg : wr.grownBy w3 u.ownBlock) : HasR w3 L 25 #[u] :=
  (hg.block L h.box.lt (fun e1 => by have := (h.own.lt L e1.symm).1; omega)).trans h.box
theorem Lst.slice {w wr : World} {L : Nat} {e : Ev} {u : Value} {ms : List Cl} (h : Lst w L e wr u ms) : ∃ p c, u = .slice p ms.length c := by
  rcases RowC.of_owns h.own with ⟨rfl, rfl⟩ | ⟨g, cap, rfl, _⟩
  · exact ⟨_, _, rfl⟩
  · exact ⟨_, _, rfl⟩
theorem Lst.row {w wr : World} {L : Nat} {e : Ev} {u : Value} {ms : List Cl} (h : Lst w L e wr u ms) : RefRow wr (L + 1) u ms := by
  rcases RowC.of_owns h.own with ⟨h1, h2⟩ | ⟨g, cap, rfl, h1, h2, h3, h4, h5⟩
  · exact .inl ⟨h1, h2⟩
  · by_cases h0 : ms = []
    · exact .inl ⟨h.nil h0, h0⟩
    · exact .inr ⟨g, cap, rfl, h0, h1, h2, h3, h5⟩
theorem sortRef_any (w : World) (L : Nat) (e : Ev) (wr : World) (u : Value) (ms : List Cl) (σ : Tab) (h : Lst w L e wr u ms) (hl : ms.length < 50) (ha : Apart ms) (hm : ∀ c : Cl, c ∈ ms ↔ σ c.t c.r = some (c.s, c.v)) :
    Calls Tryz.prog 54 #[.iface 25 u, .func (.func 55) #[] #[.pointer (some ⟨L, 0, none⟩)]] wr fun x w' => x = .returned (.tuple #[]) ∧ ∃ ds, InOrd σ ds ∧ ds.length = ms.length ∧ RefRow w' (L + 1) u ds ∧ HasR w' L 25 #[u] ∧ Below w.heap.size w w' := by
  have hlt := h.lt
  by_cases h1 : ms.length ≤ 1
  · obtain ⟨p, c, rfl⟩ := h.slice
    refine (slice_few p ms.length c h1 (.func 55) #[] #[.pointer (some ⟨L, 0, none⟩)] wr).mono ?_
    rintro x w' ⟨rfl, hb⟩
    exact ⟨rfl, ms, inOrd_short hm h1, rfl, h.row.below hb, h.box.below hb h.box.lt, h.bel.trans (hb.mono h.bel.size)⟩
  · rcases h.row with ⟨_, h2⟩ | ⟨g, cap, hu, h2, h3, h4, h5, h6⟩
    · rw [h2] at h1; simp at h1
    · subst hu
      have hb := h.box
      have hless := less_any wr g ms.toArray.size cap L (by rw [List.size_toArray]; exact hb) (by omega)
      have C := slice_some g cap #[.pointer (some ⟨L, 0, none⟩)] ms.toArray wr (by rw [List.size_toArray]; omega) (by rw [List.size_toArray]; exact hl) hless h6 h4
      rw [List.size_toArray] at C
      refine C.mono ?_
      rintro x w' ⟨rfl, d', hp, hs, hS⟩
      have hsz : d'.size = ms.length := by have := hp.1; simpa using this
      have hlen : d'.toList.length = ms.length := by simpa using hsz
      refine ⟨rfl, d'.toList, inOrd_of_sorted ha hm (by simpa using hp) (by simpa using hs), hlen, .inr ⟨g, cap, by rw [hlen], fun e0 => h1 (by rw [← hlen, e0]; simp), h3, Nat.lt_of_lt_of_le h4 hS.but.size, by rw [hlen]; exact h5, by simpa using hS.row⟩, hb.turned hS.but (by simp; omega), h.bel.trans (hS.but.below h.bel.size (fun k hk => by simp at hk; omega))⟩
end Go.Proofs.YtedcbjefkhgiiabGreatDoor
