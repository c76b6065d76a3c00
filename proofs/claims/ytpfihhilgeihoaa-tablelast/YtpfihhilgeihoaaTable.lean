/- A table as it lies in memory; a row is put there. -/
import Derived.Test.YtpfihhilgeihoaaHeld
import Derived.Deep.RegionHeld3
import Derived.Deep.DrawnRows
import Derived.Deep.QuietTactic
import Derived.BigQuiet
namespace Go.Proofs.Ytpfihhilgeihoaa
open Go.RowKit Go.Maps
attribute [local go_sem ↓] Go.wp_at_zero Go.wp_at_succ
/-- A table: a box with a map of at most n rows, or none. -/
structure TabV (w : World) (b : Nat) (mo : Option Nat) (n : Nat) (σ : Tab) : Prop where
  row : HasR w b 33 #[.map mo]
  none : mo = none → σ = tab0
  held : ∀ m, mo = some m → ∃ D, w.ownsMap Try.prog 69 cellElem m n D ∧ Reads D σ
theorem TabV.turned {w w' : World} {b : Nat} {mo : Option Nat} {n : Nat} {σ : Tab} {L : List Nat} (h : TabV w b mo n σ) (t : Stirred L w w') (hb : b ∉ L) (hm : ∀ m, mo = some m → m ∉ L) : TabV w' b mo n σ :=
  ⟨h.row.turned t hb, h.none, fun m e => by obtain ⟨D, o, i⟩ := h.held m e; exact ⟨D, ownsMap_turned o t (hm m e), i⟩⟩
theorem TabV.below {w w' : World} {b : Nat} {mo : Option Nat} {n : Nat} {σ : Tab} (h : TabV w b mo n σ) (k : Below w.heap.size w w') : TabV w' b mo n σ := h.turned (Stirred.of_below k []) (by simp) (by simp)
theorem TabV.mono {w : World} {b : Nat} {mo : Option Nat} {n m : Nat} {σ : Tab} (h : TabV w b mo n σ) (hm : n ≤ m) : TabV w b mo m σ :=
  ⟨h.row, h.none, fun k e => by obtain ⟨D, o, i⟩ := h.held k e; exact ⟨D, o.mono hm, i⟩⟩
theorem TabV.apart {w : World} {b m : Nat} {mo : Option Nat} {n : Nat} {σ : Tab} (h : TabV w b mo n σ) (e : mo = some m) : m ≠ b := by
  obtain ⟨D, ⟨es, clock, hh, _⟩, _⟩ := h.held m e
  intro e1
  have h1 := h.row
  unfold HasR at h1
  rw [e1, h1] at hh
  cases hh
/-- How a call leaves it. -/
def Upd (w w' : World) (b : Nat) (mo mo' : Option Nat) (n : Nat) (σ : Tab) : Prop :=
  TabV w' b mo' n σ ∧ (mo' = mo ∨ (mo = none ∧ ∃ m, mo' = some m ∧ w.heap.size ≤ m)) ∧ Stirred (b :: mo.toList) w w'
theorem nilMap (w : World) : (binOp .eql 31 (.map none) (.map none)).run Try.prog w = .ok (.bool true) w := by kernel_rfl
theorem aMap (m : Nat) (w : World) : (binOp .eql 31 (.map (some m)) (.map none)).run Try.prog w = .ok (.bool false) w := by kernel_rfl
set_option maxRecDepth 100000 in
set_option maxHeartbeats 1000000 in
theorem put_any (b : Nat) (mo : Option Nat) (c : Cl) (n : Nat) (σ : Tab) (w : World) (hc : Small c) (hn : n < 1000) (hV : TabV w b mo n σ) :
    Calls Try.prog 34 #[.pointer (some ⟨b, 0, none⟩), .agg #[.string c.t, .string c.r, .string c.s, .string c.v]] w fun e w' => e = .returned (.tuple #[]) ∧ ∃ mo', Upd w w' b mo mo' (n + 1) (putC c σ) := by
  have hkey := key69 c.t c.r hc.t hc.r
  have c1 : w.cell? ⟨b, 0, none⟩ = some (.map mo) := hV.row.cell 0
  have f1 : w.frozen? ⟨b, 0, none⟩ = false := hV.row.free 0
  have hb := hV.row.lt
  cases mo with
  | none =>
    have hmm := @run_makeMap Try.prog
    have hq := nilMap
    have hown : (((w.setCell ⟨b, 0, none⟩ (.map (some (w.heap.size + 1)))).alloc (.cells #[.string c.t, .string c.r, .string c.s, .string c.v] 42)).alloc (.map #[] 0)).ownsMap Try.prog 69 cellElem (w.heap.size + 1) 0 (.map []) := by
      have h := World.ownsMap_made ((w.setCell ⟨b, 0, none⟩ (.map (some (w.heap.size + 1)))).alloc (.cells #[.string c.t, .string c.r, .string c.s, .string c.v] 42)) Try.prog 69 cellElem
      have e : ((w.setCell ⟨b, 0, none⟩ (.map (some (w.heap.size + 1)))).alloc (.cells #[.string c.t, .string c.r, .string c.s, .string c.v] 42)).heap.size = w.heap.size + 1 := by simp [World.setCell]
      rw [e] at h
      exact h
    obtain ⟨w1, hrun, ho1, ht1⟩ := hown.drew.store law69 Try.underlying31 (by unfold maxLen; omega) hkey (cellElem_mk c)
    unfold cellV at hrun
    have Hσ := hide ((hV.none rfl) ▸ reads0.put hc)
    have HR := hide (hV.row.set 0 (.map (some (w.heap.size + 1))))
    have HO := hide ho1
    have HT := hide ht1
    clear hown ho1 ht1 hV
    go_enter Try.func34, Try.ntmps34
    go_wp2
    go_region
    go_end0
    have t0 : Stirred [b] w (((w.setCell ⟨b, 0, none⟩ (.map (some (w.heap.size + 1)))).alloc (.cells #[.string c.t, .string c.r, .string c.s, .string c.v] 42)).alloc (.map #[] 0)).drew :=
      (Stirred.setCell w ⟨b, 0, none⟩ _).then_below (((Below.refl _ _).alloc (Nat.le_refl _) _).alloc (by simp) _).drew
    have t1 := Stirred.of_turned HT.out
    exact ⟨rfl, some (w.heap.size + 1), ⟨(((HR.out.alloc _).alloc _).drew).turned t1 (by simp; omega), (fun e => by cases e), (fun m e => by cases e; exact ⟨_, HO.out.mono (by omega), Hσ.out⟩)⟩,
      .inr ⟨rfl, _, rfl, by omega⟩, t0.andThen t1 (fun j hj => .inr (by simp at hj; omega))⟩
  | some m =>
    obtain ⟨D, ho, hi⟩ := hV.held m rfl
    have hq := aMap m
    obtain ⟨w1, hrun, ho1, ht1⟩ := (ho.alloc (.cells #[.string c.t, .string c.r, .string c.s, .string c.v] 42)).drew.store law69 Try.underlying31 (by unfold maxLen; omega) hkey (cellElem_mk c)
    unfold cellV at hrun
    have Hσ := hide (hi.put hc)
    have HR := hide hV.row
    have HO := hide ho1
    have HT := hide ht1
    have HA := hide (hV.apart rfl)
    clear ho ho1 ht1 hV hi
    go_enter Try.func34, Try.ntmps34
    go_wp2
    go_region
    go_end0
    have t0 : Stirred (b :: (some m).toList) w (w.alloc (.cells #[.string c.t, .string c.r, .string c.s, .string c.v] 42)).drew := Stirred.of_below ((Below.refl _ w).alloc (Nat.le_refl _) _).drew _
    have t1 := Stirred.of_turned HT.out
    exact ⟨rfl, some m, ⟨(HR.out.alloc _).drew.turned t1 (by simp; exact fun e => HA.out e.symm), (fun e => by cases e), (fun m' e => by cases e; exact ⟨_, HO.out, Hσ.out⟩)⟩,
      .inl rfl, t0.andThen t1 (fun j hj => .inl (by simp at hj; simp [hj]))⟩
end Go.Proofs.Ytpfihhilgeihoaa
