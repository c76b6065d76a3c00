/- EACH FOR ITSELF, at every argument. -/
import Derived.Test.YtpfihhilgeihoaaTurnsLaw
namespace Go.Proofs.Ytpfihhilgeihoaa
open Go.RowKit Go.Sort
attribute [local go_sem ↓] Go.wp_at_zero Go.wp_at_succ
set_option linter.unusedSectionVars false
variable [Inhabited Cl] [Inhabited Ev]
set_option maxRecDepth 100000 in
set_option maxHeartbeats 1000000 in
theorem turns_any (v1 v2 v3 : Value) (es1 es2 : List Ev) (bs : List Bool) (W : World) (h1 : EvRow W v1 es1) (h2 : EvRow W v2 es2) (h3 : BoolRow W v3 bs) :
    Calls Try.prog 6 #[v1, v2, v3] W fun x w' => x = .returned (.bool true) ∧ Below W.heap.size W w' := by
  have F1 := hide (few_any v1 es1 W h1)
  cases f1 : fewB es1
  · rw [f1] at F1
    clear h1 h2 h3
    go_enter Try.func6, Try.ntmps6
    go_wp2_with (go_at_call 10; (with_reducible refine F1.out.mono ?_); rintro x w1 ⟨rfl, hb1⟩)
    go_ret
    exact ⟨rfl, hb1⟩
  · have F2 := hide (fun wx (hb : Below W.heap.size W wx) => few_any v2 es2 wx (h2.turned hb (Nat.le_refl _)))
    cases f2 : fewB es2
    · rw [f1] at F1
      rw [f2] at F2
      clear h1 h2 h3
      go_enter Try.func6, Try.ntmps6
      go_wp2_with (first
        | (go_at_call 10; (with_reducible refine F1.out.mono ?_); rintro x w1 ⟨rfl, hb1⟩; have B1 := hide hb1; clear hb1)
        | (go_at_call 10; (with_reducible refine (F2.out _ B1.out).mono ?_); rintro x w2 ⟨rfl, hb2⟩; have B2 := hide (B1.out.trans (hb2.mono B1.out.size)); clear hb2))
      go_ret
      exact ⟨rfl, B2.out⟩
    · by_cases f3 : bs.length ≤ 70
      · exact turns_main v1 v2 v3 es1 es2 bs W h1 h2 h3 f1 f2 f3
      · rw [f1] at F1
        rw [f2] at F2
        obtain ⟨ao3, cap3, rfl⟩ := h3.slice
        have d3 : decide ((70 : Int) < bs.length) = true := by simp; omega
        clear h1 h2 h3
        go_enter Try.func6, Try.ntmps6
        go_wp2_with (first
          | (go_at_call 10; (with_reducible refine F1.out.mono ?_); rintro x w1 ⟨rfl, hb1⟩; have B1 := hide hb1; clear hb1)
          | (go_at_call 10; (with_reducible refine (F2.out _ B1.out).mono ?_); rintro x w2 ⟨rfl, hb2⟩; have B2 := hide (B1.out.trans (hb2.mono B1.out.size)); clear hb2))
        go_ret
        exact ⟨rfl, B2.out⟩
end Go.Proofs.Ytpfihhilgeihoaa
