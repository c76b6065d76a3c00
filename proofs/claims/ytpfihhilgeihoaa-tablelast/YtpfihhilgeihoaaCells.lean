/- A table's rows, in order: SortedFunc, and the program's own Cells. -/
import Derived.Test.YtpfihhilgeihoaaCellRow
import Derived.Test.YtpfihhilgeihoaaApply
namespace Go.Proofs.Ytpfihhilgeihoaa
open Go.RowKit Go.Maps Go.Sort
attribute [local go_sem ↓] Go.wp_at_zero Go.wp_at_succ
set_option linter.unusedSectionVars false
variable [Inhabited Cl]
theorem seq_any (b : Nat) (mo : Option Nat) (n : Nat) (σ : Tab) (w : World) (hV : TabV w b mo n σ) :
    ∃ N, N ≤ n ∧ SeqGives Fence.wide 1 Try.prog 57 #[.pointer (some ⟨w.heap.size, 0, none⟩)] cellV (fun cs => AllOf σ cs ∧ cs.length ≤ N) N (w.alloc (.cells #[.map mo] 31)) := by
  cases mo with
  | none =>
    rw [hV.none rfl]
    exact ⟨0, Nat.zero_le _, values_gives_nil Fence.wide 1 trivial rfl w.heap.size _ (by simp) (by simp)⟩
  | some m =>
    obtain ⟨D, ho, hR⟩ := hV.held m rfl
    exact ⟨Maps.size D, ho.size_le, values_gives Fence.wide 1 trivial rfl (Nat.le_refl _) w.heap.size m n D σ hR _ (by simp) (by simp) (ho.alloc _)⟩
set_option maxRecDepth 100000 in
set_option maxHeartbeats 1000000 in
theorem sorted_any (b : Nat) (mo : Option Nat) (n : Nat) (σ : Tab) (w : World) (hn : n ≤ 1000) (hV : TabV w b mo n σ) :
    Calls Try.prog 40 #[.func (.func 57) #[] #[.pointer (some ⟨w.heap.size, 0, none⟩)], .func (.func 15) #[] #[]] (w.alloc (.cells #[.map mo] 31)) fun e w' => ∃ v ds, e = .returned v ∧ InOrd σ ds ∧ ds.length ≤ n ∧ RowC w' (w.heap.size + 1) v ds ∧ Below (w.heap.size + 1) (w.alloc (.cells #[.map mo] 31)) w' := by
  obtain ⟨N, hN, hseq⟩ := seq_any b mo n σ w hV
  have C := hide (callsIn_wide.1 (collect_in Fence.wide 3 trivial trivial rfl (by omega) 57 #[.pointer (some ⟨w.heap.size, 0, none⟩)] trivial (enters_of Try.func57 (by kernel_rfl) rfl) _ N (by omega) (w.alloc (.cells #[.map mo] 31)) hseq))
  have hs : (w.alloc (.cells #[.map mo] 31)).heap.size = w.heap.size + 1 := by simp
  rw [hs] at C
  generalize w.alloc (.cells #[.map mo] 31) = W at C hs hseq ⊢
  clear hseq hV hs
  go_enter Try.func40, Try.ntmps40
  go_wp2_with (first
    | (go_at_call 55; (with_reducible refine C.out.mono ?_); rintro e w1 ⟨v, cs, rfl, ⟨ha, hl⟩, hrow, hnil, hb1⟩
       have S := hide (sort_any (w.heap.size + 1) v cs σ w1 (RowC.of_owns hrow) ha (by omega)))
    | (go_at_call 56; (with_reducible refine S.out.mono ?_); rintro e w2 ⟨rfl, ds, ho, hn2, hr, hb2⟩))
  go_ret
  exact ⟨v, ds, rfl, ho, by omega, hr, hb1.trans hb2⟩
set_option maxRecDepth 100000 in
set_option maxHeartbeats 1000000 in
/-- Cells: all rows, in order, in memory of the call's own. -/
theorem cells_any (b : Nat) (mo : Option Nat) (n : Nat) (σ : Tab) (w : World) (hn : n ≤ 1000) (hV : TabV w b mo n σ) :
    Calls Try.prog 14 #[.pointer (some ⟨b, 0, none⟩)] w fun e w' => ∃ v ds, e = .returned v ∧ InOrd σ ds ∧ ds.length ≤ n ∧ RowC w' w.heap.size v ds ∧ Below w.heap.size w w' := by
  have hq := ptr_nil b
  have c1 : w.cell? ⟨b, 0, none⟩ = some (.map mo) := hV.row.cell 0
  have K := hide (callsIn_wide.1 (values_in Fence.wide 1 trivial rfl mo w))
  have S := hide (sorted_any b mo n σ w hn hV)
  have bel : Below w.heap.size w (w.alloc (.cells #[.map mo] 31)) := (Below.refl _ w).alloc (Nat.le_refl _) _
  clear hV
  go_enter Try.func14, Try.ntmps14
  go_wp2_with (first
    | (go_at_call 41; (with_reducible refine K.out.mono ?_); rintro e w1 ⟨rfl, rfl⟩)
    | (go_at_call 40; (with_reducible refine S.out.mono ?_); rintro e w2 ⟨v, ds, rfl, ho, hn2, hr, hb2⟩))
  go_ret
  exact ⟨v, ds, rfl, ho, hn2, hr.mono (by omega), bel.trans (hb2.mono (by omega))⟩
end Go.Proofs.Ytpfihhilgeihoaa
