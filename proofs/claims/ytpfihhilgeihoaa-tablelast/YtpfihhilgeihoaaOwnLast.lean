/- For every list of events: what stands there behind them all is what the last event left that has to do with the row; and a Gone takes a subject's rows, which stay away until the subject's next Put: TableLast returns true, and its argument reads behind the call as it did before. -/
import Derived.Test.YtpfihhilgeihoaaLastLaw
import Derived.Test.YtpfihhilgeihoaaArgs
namespace Go.Proofs.Ytpfihhilgeihoaa
open Go.ChangeShapes Go.WideShapes Go.ChangeAt Go.RowKit
attribute [local go_sem ↓] Go.wp_at_zero Go.wp_at_succ
section
set_option linter.unusedSectionVars false
variable [Inhabited Cl] [Inhabited Ev]
set_option maxRecDepth 100000 in
set_option maxHeartbeats 1000000 in
theorem last_any (v1 : Value) (es : List Ev) (W : World) (h1 : EvRow W v1 es) :
    Calls Try.prog 4 #[v1] W fun x w' => x = .returned (.bool true) ∧ Below W.heap.size W w' := by
  have bel0 : Below W.heap.size W (W.alloc (.cells #[v1] 29)) := (Below.refl _ W).alloc (Nat.le_refl _) _
  have F1 := hide (few_any v1 es _ (h1.turned bel0 (Nat.le_refl _)))
  cases f1 : fewB es
  · rw [f1] at F1
    obtain ⟨ao1, cap1, rfl⟩ := h1.slice
    clear h1
    go_enter Try.func4, Try.ntmps4
    go_wp2_with (go_at_call 10; (with_reducible refine F1.out.mono ?_); rintro x w1 ⟨rfl, hb1⟩)
    go_ret
    exact ⟨rfl, bel0.trans (hb1.mono (by simp))⟩
  · exact last_main v1 es W h1 f1
end
set_option maxRecDepth 100000 in
theorem tableLast_lifted (os : Os) (started : os.Started) (H : Type) (enc : TypeId × Value → H) :
    ReturnsInHanded {} Try.checked os 4 .any (Rows.tableLastSpec.pre6 enc Try.prog Try.f4 [] false) (Rows.tableLastSpec.post enc Try.prog Try.f4 false true false false) := by
  refine returnsInHanded_of_change (C := Try.checked) own started (by kernel_rfl) Try.func4
    (ChangeSpec.witness6 (enc := enc) (C := Try.checked) false ⟨#[], #[.slice none 0 0], []⟩ 8 (by kernel_rfl) (by kernel_rfl) (by kernel_rfl) (by kernel_rfl)) ?_
  intro W base args ds gs before hval0 hW _ _
  have hval : ∀ (j : Nat) t v, Try.f4.params[j]? = some t → args[j]? = some v → Value.okWide Try.prog W .any base t v := hval0
  have hW' := hW
  obtain ⟨p, q, hA0, hV, rfl, hfz, hnd⟩ := hW
  have hA : DataW.TrodAll enc Try.prog W 0 (fun _ => true) true Try.f4.params.toList args.toList ds p := hA0
  rw [Try.params4] at hA hval
  obtain ⟨v0, vs0, d0, ds0, p0, q0, hargs, rfl, rfl, h0, r0⟩ := trodAll_cons hA
  obtain ⟨rfl, rfl, rfl⟩ := trodAll_nil r0
  obtain rfl : args = #[v0] := by cases args; simp_all
  obtain ⟨rfl, rfl⟩ := trodVars_none hV
  obtain ⟨a0, len0, cap0, rfl⟩ := okWide_slice Try.underlying29 (hval 0 29 v0 rfl rfl)
  have k0 := h0
  have lt0 : ∀ x ∈ p0, x.block < W.heap.size := by obtain ⟨m, hm⟩ := k0; exact DataW.trod_lt m _ _ _ hm
  letI : Inhabited Cl := ⟨cl0⟩
  letI : Inhabited Ev := ⟨ev0⟩
  obtain ⟨es1, e1⟩ := evs_of h0
  clear hA0 hval0
  simp only [List.append_nil] at hW'
  refine (last_any _ es1 W e1).mono fun x W' ⟨he, bel⟩ => ?_
  subst he
  exact ⟨_, rfl, _, _, _, [], _, [], hW', trodAll_mk1 (shut_bool Try.underlying4 _),
    (trodAll_cons_mk (Below.trod laidOut (by kernel_rfl) (of_decide_eq_true (by kernel_rfl)) k0 bel lt0) trodAll_mk0), rfl, bel.frame _, fun h => by cases h⟩
theorem tableLast_holds : Rows.TableLastSaid :=
  OpenClaim.holds_of_wide 4 Try.f4 rfl rfl rfl rfl rfl rfl rfl ⟨rfl, rfl, rfl, rfl, rfl⟩ rfl rfl rfl rfl rfl (by kernel_rfl) Try.func4 (by kernel_rfl)
    (of_decide_eq_true (by kernel_rfl)) (by unfold Func.isWrapper; first | (rw [if_pos (by decide +kernel)]; kernel_rfl) | (rw [if_neg (by decide +kernel)]; exact ⟨rfl, rfl⟩))
    (fun os started H enc _ => tableLast_lifted os started H enc)
end Go.Proofs.Ytpfihhilgeihoaa
