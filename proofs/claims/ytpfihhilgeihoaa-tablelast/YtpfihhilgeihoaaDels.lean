/- A row is looked up; a row is taken away. -/
import Derived.Test.YtpfihhilgeihoaaTable
namespace Go.Proofs.Ytpfihhilgeihoaa
open Go.RowKit Go.Maps
attribute [local go_sem ↓] Go.wp_at_zero Go.wp_at_succ
theorem zero42 (w : World) : (zeroValue 42).run Try.prog w = .ok (cellV cl0) w := by kernel_rfl
/-- What is found at a place. -/
def atC (σ : Tab) (t r : ByteArray) : Cl :=
  match σ t r with
  | some p => ⟨t, r, p.1, p.2⟩
  | none => cl0
theorem atC_some {σ : Tab} {t r s v : ByteArray} (h : σ t r = some (s, v)) : atC σ t r = ⟨t, r, s, v⟩ := by unfold atC; rw [h]
theorem atC_none {σ : Tab} {t r : ByteArray} (h : σ t r = none) : atC σ t r = cl0 := by unfold atC; rw [h]
theorem look_run {W : World} {mo : Option Nat} {n : Nat} {σ : Tab} (h0 : mo = none → σ = tab0) (hm : ∀ m, mo = some m → ∃ D, W.ownsMap Try.prog 69 cellElem m n D ∧ Reads D σ) {t r : ByteArray} (ht : t.size ≤ 60) (hr : r.size ≤ 60) :
    (Instr.lookup 31 (.map mo) (.agg #[.string t, .string r]) false).run Try.prog W = .ok (.agg #[.string (atC σ t r).t, .string (atC σ t r).r, .string (atC σ t r).s, .string (atC σ t r).v]) W := by
  cases mo with
  | none =>
    rw [atC_none (by rw [h0 rfl]; rfl)]
    exact look_nil false law69 Try.underlying31 (zero42 W) (key69 t r ht hr)
  | some m =>
    obtain ⟨D, ho, hR⟩ := hm m rfl
    obtain ⟨v, ps, hrun, hv⟩ := ho.lookup law69 Try.underlying31 (zero42 W) (cellElem_mk cl0) (key69 t r ht hr)
    rw [hrun]
    cases hx : σ t r with
    | none =>
      rw [(hR.absent ht hr hx).2] at hv
      rw [atC_none hx, cellElem_is hv]
      rfl
    | some p =>
      have e := (hR.there (c := ⟨t, r, p.1, p.2⟩) hx).2 (cellD cl0)
      simp only at e
      rw [e] at hv
      rw [atC_some hx, cellElem_is hv]
      rfl
theorem look_ok_run {W : World} {mo : Option Nat} {n : Nat} {σ : Tab} (h0 : mo = none → σ = tab0) (hm : ∀ m, mo = some m → ∃ D, W.ownsMap Try.prog 69 cellElem m n D ∧ Reads D σ) {t r : ByteArray} (ht : t.size ≤ 60) (hr : r.size ≤ 60) :
    (Instr.lookup 31 (.map mo) (.agg #[.string t, .string r]) true).run Try.prog W = .ok (.tuple #[.agg #[.string (atC σ t r).t, .string (atC σ t r).r, .string (atC σ t r).s, .string (atC σ t r).v], .bool (σ t r).isSome]) W := by
  cases mo with
  | none =>
    have e : σ t r = none := by rw [h0 rfl]; rfl
    rw [atC_none e, e]
    exact look_nil true law69 Try.underlying31 (zero42 W) (key69 t r ht hr)
  | some m =>
    obtain ⟨D, ho, hR⟩ := hm m rfl
    obtain ⟨v, ps, hrun, hv⟩ := ho.look_ok law69 Try.underlying31 (zero42 W) (cellElem_mk cl0) (key69 t r ht hr)
    rw [hrun]
    cases hx : σ t r with
    | none =>
      rw [(hR.absent ht hr hx).2] at hv
      rw [atC_none hx, cellElem_is hv, (hR.absent ht hr hx).1]
      rfl
    | some p =>
      have e := hR.there (c := ⟨t, r, p.1, p.2⟩) hx
      simp only at e
      rw [e.2] at hv
      rw [atC_some hx, cellElem_is hv, e.1]
      rfl
theorem atC_own {σ : Tab} {t r s : ByteArray} (hs : 1 ≤ s.size) : ((atC σ t r).s.toList == s.toList) = ownB (σ t r) s := by
  rw [Lib.toList_data, Lib.toList_data]
  cases hx : σ t r with
  | none =>
    rw [atC_none hx, ownB_none]
    have : s.data.toList ≠ [] := fun e => by
      have h1 : s.data.toList.length = s.size := Array.length_toList
      rw [e] at h1
      simp at h1
      omega
    rw [beq_eq_false_iff_ne]
    exact fun e => this e.symm
  | some p =>
    obtain ⟨a, b⟩ := p
    rw [atC_some hx, ownB_some, Bool.eq_iff_iff]
    simp only [beq_iff_eq, decide_eq_true_eq]
    exact ⟨fun h => bytes_eq h, fun h => by rw [h]⟩
theorem field42 (a b c d : ByteArray) (W : World) : (Instr.field 42 (.agg #[.string a, .string b, .string c, .string d]) 2).run Try.prog W = .ok (.string c) W := by kernel_rfl
set_option maxRecDepth 100000 in
set_option maxHeartbeats 1000000 in
theorem del_any (b : Nat) (mo : Option Nat) (t r s : ByteArray) (n : Nat) (σ : Tab) (w : World) (ht : t.size ≤ 60) (hr : r.size ≤ 60) (hs : 1 ≤ s.size) (hV : TabV w b mo n σ) :
    Calls Try.prog 35 #[.pointer (some ⟨b, 0, none⟩), .agg #[.string t, .string r], .string s] w fun e w' => e = .returned (.tuple #[]) ∧ Upd w w' b mo mo n (if ownB (σ t r) s = true then delC t r σ else σ) := by
  have c1 : w.cell? ⟨b, 0, none⟩ = some (.map mo) := hV.row.cell 0
  have hb := hV.row.lt
  have bel : Below w.heap.size w (w.alloc (.cells #[.string t, .string r] 69)) := (Below.refl _ w).alloc (Nat.le_refl _) _
  have hl := look_run (W := (w.alloc (.cells #[.string t, .string r] 69)).drew) (hV.below bel).none (fun m e => (hV.below bel).held m e) ht hr
  have ho := atC_own (σ := σ) (t := t) (r := r) hs
  generalize atC σ t r = x at hl ho
  have hf := field42 x.t x.r x.s x.v
  cases hown : ownB (σ t r) s
  · rw [hown] at ho
    have HV := hide hV
    clear hV hown
    go_enter Try.func35, Try.ntmps35
    go_wp2
    go_region
    go_wp2
    go_end0
    exact ⟨rfl, HV.out.below bel.drew, .inl rfl, Stirred.of_below bel.drew _⟩
  · rw [hown] at ho
    cases mo with
    | none =>
      rw [hV.none rfl] at hown
      cases hown
    | some m =>
      obtain ⟨D, hm, hR⟩ := hV.held m rfl
      obtain ⟨w1, hrun, ho1, ht1⟩ := (hm.alloc (.cells #[.string t, .string r] 69)).drew.drew.drop law69 Try.underlying31 (key69 t r ht hr) 0
      have HR := hide hV.row
      have HA := hide (hV.apart rfl)
      have HO := hide ho1
      have HT := hide ht1
      have Hσ := hide (hR.del (t0 := t) (r0 := r) ht hr)
      clear hV hown hR hm ho1 ht1
      go_enter Try.func35, Try.ntmps35
      go_wp2
      go_region
      go_wp2
      go_region
      go_end0
      have t0 : Stirred (b :: (some m).toList) w (w.alloc (.cells #[.string t, .string r] 69)).drew.drew := Stirred.of_below ((Below.refl _ w).alloc (Nat.le_refl _) _).drew.drew _
      have t1 := Stirred.of_turned HT.out
      exact ⟨rfl, ⟨(HR.out.alloc _).drew.drew.turned t1 (by simp; exact fun e => HA.out e.symm), (fun e => by cases e), (fun m' e => by cases e; exact ⟨_, HO.out, Hσ.out⟩)⟩,
        .inl rfl, t0.andThen t1 (fun j hj => .inl (by simp at hj; simp [hj]))⟩
end Go.Proofs.Ytpfihhilgeihoaa
