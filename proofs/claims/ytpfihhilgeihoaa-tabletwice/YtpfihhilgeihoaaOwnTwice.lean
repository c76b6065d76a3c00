/- For every list of events and every event: an event that happens twice, one behind the other, leaves what it leaves once; one that may not be leaves all as it was; a Put and a Del of its row leave what was there but for that row; and a Gone is all Dels of the subject's rows: TableTwice returns true, and each argument reads behind the call as it did before. -/
import Derived.Test.YtpfihhilgeihoaaTwiceLaw
import Derived.Test.YtpfihhilgeihoaaArgs
namespace Go.Proofs.Ytpfihhilgeihoaa
open Go.ChangeShapes Go.WideShapes Go.ChangeAt Go.RowKit
attribute [local go_sem ↓] Go.wp_at_zero Go.wp_at_succ
section
set_option linter.unusedSectionVars false
variable [Inhabited Cl] [Inhabited Ev]
set_option maxRecDepth 100000 in
set_option maxHeartbeats 1000000 in
theorem twice_any (v1 : Value) (es : List Ev) (e : Ev) (W : World) (h1 : EvRow W v1 es) :
    Calls Try.prog 5 #[v1, .agg #[.int .i64 e.k, .string e.s, .string e.t, .string e.r, .string e.v]] W fun x w' => x = .returned (.bool true) ∧ Below W.heap.size W w' := by
  have bel0 : Below W.heap.size W (W.alloc (.cells #[.int .i64 e.k, .string e.s, .string e.t, .string e.r, .string e.v] 36)) := (Below.refl _ W).alloc (Nat.le_refl _) _
  have hE0 : HasR (W.alloc (.cells #[.int .i64 e.k, .string e.s, .string e.t, .string e.r, .string e.v] 36)) W.heap.size 36 (evA e) := HasR.new W 36 _
  have F1 := hide (few_any v1 es _ (h1.turned bel0 (Nat.le_refl _)))
  have F2 := hide (fun (wx : World) => few_any (.slice (some ⟨wx.heap.size, 0, none⟩) 1 1) [e] (wx.alloc (.cells #[.int .i64 e.k, .string e.s, .string e.t, .string e.r, .string e.v] 36)) (boxRow (HasR.new wx 36 _)))
  cases f1 : fewB es
  · rw [f1] at F1
    clear h1
    go_enter Try.func5, Try.ntmps5
    go_wp2_with (go_at_call 10; (with_reducible refine F1.out.mono ?_); rintro x w1 ⟨rfl, hb1⟩)
    go_ret
    exact ⟨rfl, bel0.trans (hb1.mono (by simp))⟩
  · cases f2 : fewB [e]
    · rw [f1] at F1
      rw [f2] at F2
      clear h1
      go_enter Try.func5, Try.ntmps5
      go_wp2_with (first
        | (go_at_call 10; (with_reducible refine F1.out.mono ?_); rintro x w1 ⟨rfl, hb1⟩
           obtain ⟨k0, k1, k2, k3, k4⟩ := box_cells (hE0.below hb1 hE0.lt)
           have B1 := hide (bel0.trans (hb1.mono (by simp)))
           clear hb1)
        | (go_at_call 10; (with_reducible refine (F2.out _).mono ?_); rintro x w2 ⟨rfl, hb2⟩))
      go_ret
      have hb3 := ((Below.refl _ w1).alloc (Nat.le_refl _) (.cells #[.int .i64 e.k, .string e.s, .string e.t, .string e.r, .string e.v] 36)).trans (hb2.mono (by simp))
      exact ⟨rfl, B1.out.trans (hb3.mono B1.out.size)⟩
    · exact twice_main v1 es e W h1 f1 f2
end
set_option maxRecDepth 100000 in
theorem tableTwice_lifted (os : Os) (started : os.Started) (H : Type) (enc : TypeId × Value → H) :
    ReturnsInHanded {} Try.checked os 5 .any (Rows.tableTwiceSpec.pre6 enc Try.prog Try.f5 [] false) (Rows.tableTwiceSpec.post enc Try.prog Try.f5 false true false false) := by
  refine returnsInHanded_of_change (C := Try.checked) own started (by kernel_rfl) Try.func5
    (ChangeSpec.witness6 (enc := enc) (C := Try.checked) false ⟨#[], #[.slice none 0 0, .agg #[.int .i64 0, .string ByteArray.empty, .string ByteArray.empty, .string ByteArray.empty, .string ByteArray.empty]], []⟩ 8 (by kernel_rfl) (by kernel_rfl) (by kernel_rfl) (by kernel_rfl)) ?_
  intro W base args ds gs before hval0 hW _ _
  have hval : ∀ (j : Nat) t v, Try.f5.params[j]? = some t → args[j]? = some v → Value.okWide Try.prog W .any base t v := hval0
  have hW' := hW
  obtain ⟨p, q, hA0, hV, rfl, hfz, hnd⟩ := hW
  have hA : DataW.TrodAll enc Try.prog W 0 (fun _ => true) true Try.f5.params.toList args.toList ds p := hA0
  rw [Try.params5] at hA hval
  obtain ⟨v0, vs0, d0, ds0, p0, q0, hargs, rfl, rfl, h0, r0⟩ := trodAll_cons hA
  obtain ⟨v1, vs1, d1, ds1, p1, q1, rfl, rfl, rfl, h1, r1⟩ := trodAll_cons r0
  obtain ⟨rfl, rfl, rfl⟩ := trodAll_nil r1
  obtain rfl : args = #[v0, v1] := by cases args; simp_all
  obtain ⟨rfl, rfl⟩ := trodVars_none hV
  obtain ⟨a0, len0, cap0, rfl⟩ := okWide_slice Try.underlying29 (hval 0 29 v0 rfl rfl)
  have k0 := h0
  have k1 := h1
  have lt0 : ∀ x ∈ p0, x.block < W.heap.size := by obtain ⟨m, hm⟩ := k0; exact DataW.trod_lt m _ _ _ hm
  have lt1 : ∀ x ∈ p1, x.block < W.heap.size := by obtain ⟨m, hm⟩ := k1; exact DataW.trod_lt m _ _ _ hm
  letI : Inhabited Cl := ⟨cl0⟩
  letI : Inhabited Ev := ⟨ev0⟩
  obtain ⟨es1, e1⟩ := evs_of h0
  obtain ⟨cs, rfl, hsz⟩ := okWide_struct Try.underlying36 (hval 1 36 v1 rfl rfl)
  obtain ⟨fuel, hf⟩ := h1
  obtain ⟨e, he⟩ := ev_of hf
  obtain rfl : cs = #[.int .i64 e.k, .string e.s, .string e.t, .string e.r, .string e.v] := by
    have : cs.toList = evL e := he
    rw [← Array.toArray_toList (xs := cs), this]
    rfl
  clear hA0 hval0
  simp only [List.append_nil] at hW'
  refine (twice_any _ es1 e W e1).mono fun x W' ⟨he, bel⟩ => ?_
  subst he
  exact ⟨_, rfl, _, _, _, [], _, [], hW', trodAll_mk1 (shut_bool Try.underlying4 _),
    (trodAll_cons_mk (Below.trod laidOut (by kernel_rfl) (of_decide_eq_true (by kernel_rfl)) k0 bel lt0) (trodAll_cons_mk (Below.trod laidOut (by kernel_rfl) (of_decide_eq_true (by kernel_rfl)) k1 bel lt1) trodAll_mk0)), rfl, bel.frame _, fun h => by cases h⟩
theorem tableTwice_holds : Rows.TableTwiceSaid :=
  OpenClaim.holds_of_wide 5 Try.f5 rfl rfl rfl rfl rfl rfl rfl ⟨rfl, rfl, rfl, rfl, rfl⟩ rfl rfl rfl rfl rfl (by kernel_rfl) Try.func5 (by kernel_rfl)
    (of_decide_eq_true (by kernel_rfl)) (by unfold Func.isWrapper; first | (rw [if_pos (by decide +kernel)]; kernel_rfl) | (rw [if_neg (by decide +kernel)]; exact ⟨rfl, rfl⟩))
    (fun os started H enc _ => tableTwice_lifted os started H enc)
end Go.Proofs.Ytpfihhilgeihoaa
