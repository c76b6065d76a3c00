/- Texts of this proof, one behind the other. -/
import Derived.Deep.RegionHeld3
import Derived.Deep.DrawnRows
import Derived.Deep.QuietTactic
import Derived.BigQuiet
import Derived.Test.YtedcbjefkhgiiabGreatDoorPart9
/- The order of cells: cmp.Or, and the program's own Compare. -/
namespace Go.Proofs.YtedcbjefkhgiiabGreatDoor
open Go.RowKit Go.Sort
attribute [local go_sem ↓] Go.wp_at_zero Go.wp_at_succ
set_option linter.unusedSectionVars false
variable [Inhabited Cl]
def orI (x y : Int) : Int := if x ≠ 0 then x else y
set_option maxRecDepth 100000 in
set_option maxHeartbeats 1000000 in
theorem or_any (b : Nat) (x y : Int) (w : World) (h0 : w.cell? ⟨b, 0, none⟩ = some (.int .i64 x)) (h1 : w.cell? ⟨b, 1, none⟩ = some (.int .i64 y)) :
    Calls Tryz.prog 91 #[.slice (some ⟨b, 0, none⟩) 2 2] w fun e w' => e = .returned (.int .i64 (orI x y)) ∧ w' = w := by
  unfold orI
  by_cases hx : x = 0
  · rw [if_neg (by simpa using hx)]
    subst hx
    by_cases hy : y = 0
    · subst hy
      go_enter Tryz.func91, Tryz.ntmps91
      go_wp2
      refine wp_loop_rounds 3 ?_
      rw [rounds_succ]
      go_wp2
      rw [rounds_succ]
      go_wp2
      rw [rounds_succ]
      go_wp2
      go_ret
      exact ⟨rfl, rfl⟩
    · go_enter Tryz.func91, Tryz.ntmps91
      go_wp2
      refine wp_loop_rounds 2 ?_
      rw [rounds_succ]
      go_wp2
      rw [rounds_succ]
      go_wp2
      go_ret
      exact ⟨rfl, rfl⟩
  · rw [if_pos hx]
    go_enter Tryz.func91, Tryz.ntmps91
    go_wp2
    refine wp_loop_rounds 1 ?_
    rw [rounds_succ]
    go_wp2
    go_ret
    exact ⟨rfl, rfl⟩
theorem strCompare (a b : ByteArray) (w : World) : Calls Tryz.prog 92 #[.string a, .string b] w fun e w' => e = .returned (.int .i64 (Lib.compareBytes a.data.toList b.data.toList)) ∧ w' = w :=
  Any.strings_Compare (ρ := laysCompare_ren) laysCompare a b w
theorem cmpC_is (x y : Cl) : orI (Lib.compareBytes x.t.data.toList y.t.data.toList) (Lib.compareBytes x.r.data.toList y.r.data.toList) = cmpC x y := rfl
set_option maxRecDepth 100000 in
set_option maxHeartbeats 2000000 in
theorem compare_any (x y : Cl) (W : World) :
    Calls Tryz.prog 59 #[.agg #[.string x.t, .string x.r, .string x.s, .string x.v], .agg #[.string y.t, .string y.r, .string y.s, .string y.v]] W fun e w' => e = .returned (.int .i64 (cmpC x y)) ∧ ∃ q os', w' = grow (W.drewN q) os' := by
  have T := hide (fun wx => strCompare x.t y.t wx)
  have R := hide (fun wx => strCompare x.r y.r wx)
  rw [← cmpC_is]
  generalize Lib.compareBytes x.t.data.toList y.t.data.toList = a at T ⊢
  generalize Lib.compareBytes x.r.data.toList y.r.data.toList = b at R ⊢
  have hrow : HasR (((W.alloc (.cells #[.string x.t, .string x.r, .string x.s, .string x.v] 44)).alloc (.cells #[.string y.t, .string y.r, .string y.s, .string y.v] 44)).alloc (.cells #[.int .i64 a, .int .i64 b] 3)).drew (W.heap.size + 1 + 1) 3 #[.int .i64 a, .int .i64 b] :=
    (HasR.new' (by simp) 3 _).drew
  have O := hide (or_any (W.heap.size + 1 + 1) a b _ (hrow.cell 0) (hrow.cell 1))
  clear hrow
  generalize orI a b = o at O ⊢
  go_enter Tryz.func59, Tryz.ntmps59
  go_wp2
  go_region_held3 (fun wx => wx.cell? ⟨W.heap.size, 0, none⟩ = some (.string x.t) ∧ wx.cell? ⟨W.heap.size, 1, none⟩ = some (.string x.r) ∧ wx.cell? ⟨W.heap.size + 1, 0, none⟩ = some (.string y.t) ∧ wx.cell? ⟨W.heap.size + 1, 1, none⟩ = some (.string y.r)) (go_keep)
    (first
    | (go_at_call 92; (with_reducible refine (T.out _).mono ?_); rintro e w1 ⟨rfl, rfl⟩)
    | (go_at_call 92; (with_reducible refine (R.out _).mono ?_); rintro e w1 ⟨rfl, rfl⟩)
    | (go_at_call 91; (with_reducible refine O.out.mono ?_); rintro e w1 ⟨rfl, rfl⟩))
  go_wp2
  go_ret
  exact ⟨rfl, 1, _, by rw [alloc_eq_grow, alloc_eq_grow, alloc_eq_grow, grow_grow, grow_grow]; rfl⟩
/-- What it says to the sort. -/
theorem ltOf_cmpC : ltOf cmpC = ltC := by
  funext a b
  exact cmpC_lt a b
theorem cmpLays (blk off size : Nat) (w : World) : CmpLays Tryz.prog 59 #[] cellL 4 cmpC blk off size w := fun _ _ _ _ x y => compare_any x y _
end Go.Proofs.YtedcbjefkhgiiabGreatDoor

/- Cells in a row of memory: the program's own sort of them. -/
namespace Go.Proofs.YtedcbjefkhgiiabGreatDoor
open Go.RowKit Go.Sort
set_option linter.unusedSectionVars false
variable [Inhabited Cl]
set_option maxRecDepth 100000 in
theorem sort_any (base : Nat) (v : Value) (cs : List Cl) (σ : Tab) (w : World) (hr : RowC w base v cs) (ha : AllOf σ cs) (hl : cs.length ≤ 1000) :
    Calls Tryz.prog 89 #[v, .func (.func 59) #[] #[]] w fun e w' => e = .returned (.tuple #[]) ∧ ∃ ds, InOrd σ ds ∧ ds.length = cs.length ∧ RowC w' base v ds ∧ Below base w w' := by
  rcases hr with ⟨rfl, rfl⟩ | ⟨g, cap, rfl, hb, hg, h1, h2, h3⟩
  · refine (AnyF.slices_SortFunc_none (ρ := laysSort_ren) laysSort none 0 (.func (.func 59) #[] #[]) w).mono ?_
    rintro e w' ⟨rfl, rfl⟩
    exact ⟨rfl, [], inOrd_short ha.2 (by simp), rfl, .inl ⟨rfl, rfl⟩, Below.refl _ _⟩
  · have eg : ∀ args w, (callFunc 59 args).run Tryz.prog w = .ok (.enter 59 args) w := enters_of Tryz.func59 (by kernel_rfl) rfl
    have hcon := AnyQ.slices_SortFunc (ρ := laysSort_ren) laysSort 4 isAgg42 sizeOf42 cellL (fun _ => rfl) cellL_one cmpC (by rw [ltOf_cmpC]; exact swo_ltC) 59 #[] g 0 cap cs.toArray w eg (cmpLays g 0 _ w) h3 hg (by rw [List.size_toArray]; omega)
    rw [ltOf_cmpC, List.size_toArray] at hcon
    refine hcon.mono ?_
    rintro e w' ⟨rfl, d', n, os, hp, hs, rfl⟩
    have hsz : d'.size = cs.length := by have := hp.1; simpa using this
    have hlen : d'.toList.length = cs.length := by simpa using hsz
    refine ⟨rfl, d'.toList, inOrd_of_sorted ha.1 ha.2 (by simpa using hp) (by simpa using hs), hlen, .inr ⟨g, cap, by rw [hlen], hb, ?_, by rw [hlen]; exact h1, h2, ?_⟩, below_sortWorld hb hg⟩
    · have := (below_sortWorld (w := w) (n := n) (d := d') (os := os) (Nat.le_refl g) hg).size
      omega
    · have h5 : HoldsK cellL 4 (putRowK cellL 4 (Sort.ahead w n) g 0 d') g 0 d' := holdsK_putRowK cellL 4 (Sort.ahead w n) g 0 cs.toArray d' (holdsK_ahead _ _ _ _ _ _ _ h3) (by rw [List.size_toArray]; exact hsz)
      have h6 := holdsK_grow cellL 4 (putRowK cellL 4 (Sort.ahead w n) g 0 d') os g 0 d' (by simp [putRowK, putRow, mapBlock, Sort.ahead]; exact hg) h5
      simpa [sortWorldK] using h6
end Go.Proofs.YtedcbjefkhgiiabGreatDoor
