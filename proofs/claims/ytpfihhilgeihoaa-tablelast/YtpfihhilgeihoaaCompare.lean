/- The order of cells: cmp.Or, and the program's own Compare. -/
import Derived.Test.YtpfihhilgeihoaaLays
import Derived.Test.YtpfihhilgeihoaaHeld
import Derived.Deep.RegionHeld3
import Derived.Deep.DrawnRows
import Derived.Deep.QuietTactic
import Derived.BigQuiet
namespace Go.Proofs.Ytpfihhilgeihoaa
open Go.RowKit Go.Sort
attribute [local go_sem ↓] Go.wp_at_zero Go.wp_at_succ
set_option linter.unusedSectionVars false
variable [Inhabited Cl]
def orI (x y : Int) : Int := if x ≠ 0 then x else y
set_option maxRecDepth 100000 in
set_option maxHeartbeats 1000000 in
theorem or_any (b : Nat) (x y : Int) (w : World) (h0 : w.cell? ⟨b, 0, none⟩ = some (.int .i64 x)) (h1 : w.cell? ⟨b, 1, none⟩ = some (.int .i64 y)) :
    Calls Try.prog 42 #[.slice (some ⟨b, 0, none⟩) 2 2] w fun e w' => e = .returned (.int .i64 (orI x y)) ∧ w' = w := by
  unfold orI
  by_cases hx : x = 0
  · rw [if_neg (by simpa using hx)]
    subst hx
    by_cases hy : y = 0
    · subst hy
      go_enter Try.func42, Try.ntmps42
      go_wp2
      refine wp_loop_rounds 3 ?_
      rw [rounds_succ]
      go_wp2
      rw [rounds_succ]
      go_wp2
      rw [rounds_succ]
      go_wp2
      go_ret
      exact ⟨rfl, rfl⟩
    · go_enter Try.func42, Try.ntmps42
      go_wp2
      refine wp_loop_rounds 2 ?_
      rw [rounds_succ]
      go_wp2
      rw [rounds_succ]
      go_wp2
      go_ret
      exact ⟨rfl, rfl⟩
  · rw [if_pos hx]
    go_enter Try.func42, Try.ntmps42
    go_wp2
    refine wp_loop_rounds 1 ?_
    rw [rounds_succ]
    go_wp2
    go_ret
    exact ⟨rfl, rfl⟩
theorem strCompare (a b : ByteArray) (w : World) : Calls Try.prog 43 #[.string a, .string b] w fun e w' => e = .returned (.int .i64 (Lib.compareBytes a.data.toList b.data.toList)) ∧ w' = w :=
  Any.strings_Compare (ρ := laysCompare_ren) laysCompare a b w
theorem cmpC_is (x y : Cl) : orI (Lib.compareBytes x.t.data.toList y.t.data.toList) (Lib.compareBytes x.r.data.toList y.r.data.toList) = cmpC x y := rfl
set_option maxRecDepth 100000 in
set_option maxHeartbeats 2000000 in
theorem compare_any (x y : Cl) (W : World) :
    Calls Try.prog 15 #[.agg #[.string x.t, .string x.r, .string x.s, .string x.v], .agg #[.string y.t, .string y.r, .string y.s, .string y.v]] W fun e w' => e = .returned (.int .i64 (cmpC x y)) ∧ ∃ q os', w' = grow (W.drewN q) os' := by
  have T := hide (fun wx => strCompare x.t y.t wx)
  have R := hide (fun wx => strCompare x.r y.r wx)
  rw [← cmpC_is]
  generalize Lib.compareBytes x.t.data.toList y.t.data.toList = a at T ⊢
  generalize Lib.compareBytes x.r.data.toList y.r.data.toList = b at R ⊢
  have hrow : HasR (((W.alloc (.cells #[.string x.t, .string x.r, .string x.s, .string x.v] 42)).alloc (.cells #[.string y.t, .string y.r, .string y.s, .string y.v] 42)).alloc (.cells #[.int .i64 a, .int .i64 b] 3)).drew (W.heap.size + 1 + 1) 3 #[.int .i64 a, .int .i64 b] :=
    (HasR.new' (by simp) 3 _).drew
  have O := hide (or_any (W.heap.size + 1 + 1) a b _ (hrow.cell 0) (hrow.cell 1))
  clear hrow
  generalize orI a b = o at O ⊢
  go_enter Try.func15, Try.ntmps15
  go_wp2
  go_region_held3 (fun wx => wx.cell? ⟨W.heap.size, 0, none⟩ = some (.string x.t) ∧ wx.cell? ⟨W.heap.size, 1, none⟩ = some (.string x.r) ∧ wx.cell? ⟨W.heap.size + 1, 0, none⟩ = some (.string y.t) ∧ wx.cell? ⟨W.heap.size + 1, 1, none⟩ = some (.string y.r)) (go_keep)
    (first
    | (go_at_call 43; (with_reducible refine (T.out _).mono ?_); rintro e w1 ⟨rfl, rfl⟩)
    | (go_at_call 43; (with_reducible refine (R.out _).mono ?_); rintro e w1 ⟨rfl, rfl⟩)
    | (go_at_call 42; (with_reducible refine O.out.mono ?_); rintro e w1 ⟨rfl, rfl⟩))
  go_wp2
  go_ret
  exact ⟨rfl, 1, _, by rw [alloc_eq_grow, alloc_eq_grow, alloc_eq_grow, grow_grow, grow_grow]; rfl⟩
/-- What it says to the sort. -/
theorem ltOf_cmpC : ltOf cmpC = ltC := by
  funext a b
  exact cmpC_lt a b
theorem cmpLays (blk off size : Nat) (w : World) : CmpLays Try.prog 15 #[] cellL 4 cmpC blk off size w := fun _ _ _ _ x y => compare_any x y _
end Go.Proofs.Ytpfihhilgeihoaa
