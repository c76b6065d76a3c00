/- For every record, text, number and text: what a record is written as is read as that record, no beginning of it is any, nor it with more behind it, and what was read is written just so: WireBack returns true, and each argument reads behind the call as it did before. The program's table of the sum starts as its text lays it (the card ties that). -/
import Derived.Test.YtkbaalenbpgheaaDoorPart11
namespace Go.Proofs.YtkbaalenbpgheaaDoor
open Go.ChangeShapes Go.WideShapes Go.ChangeAt Go.RowKit
open Go.ChangeMaps (open_string shut_string)
theorem back_any (q : Int) (s : ByteArray) (g : Int) (p d t : ByteArray) (cut : Int) (more : ByteArray) (w : World) (hK : TabK w) :
    Calls Tryd.prog 4 #[.agg #[.int .i64 q, .string s, .int .i64 g, .string p, .string d], .string t, .int .i64 cut, .string more] w fun x w' => x = .returned (.bool true) ∧ Below w.heap.size w w' := by
  obtain ⟨l, rfl⟩ : ∃ l, t = tx l := ⟨t.data.toList, (tx_of t).symm⟩
  by_cases f0 : s.size ≤ 40
  case neg => exact back_far0 q s g p d l cut more w (by omega)
  by_cases f1 : p.size ≤ 40
  case neg => exact back_far1 q s g p d l cut more w f0 (by omega)
  by_cases f2 : d.size ≤ 450
  case neg => exact back_far2 q s g p d l cut more w f0 f1 (by omega)
  by_cases f3 : (tx l).size ≤ 1500
  case neg => exact back_far3 q s g p d l cut more w f0 f1 f2 (by omega)
  by_cases f4 : more.size ≤ 60
  case neg => exact back_far4 q s g p d l cut more w f0 f1 f2 f3 (by omega)
  cases hr : rightI q s g p d with
  | false =>
    cases hp : parseL l with
    | none => exact back_none_bad q s g p d l cut more w f0 f1 f2 f3 f4 hp hr hK
    | some x =>
      have hh := parseL_iff.1 hp
      have hx := hh.1
      have e := hh.2
      clear hp hh
      have key := back_some_bad q s g p d cut more x w f0 f1 f2 (by rw [← e]; exact f3) f4 hx hr hK
      rw [← e] at key
      exact key
  | true =>
    have hqg : 1 ≤ q ∧ 0 ≤ g := by
      unfold rightI at hr
      simp only [Bool.and_eq_true, decide_eq_true_eq] at hr
      exact ⟨hr.1, hr.2.2.2.1⟩
    obtain ⟨a, rfl⟩ : ∃ n : Nat, q = (n : Int) := ⟨q.toNat, by omega⟩
    obtain ⟨b, rfl⟩ : ∃ n : Nat, g = (n : Int) := ⟨g.toNat, by omega⟩
    have hR : RightR ⟨a, s, b, p, d⟩ := rightRB_iff.1 hr
    by_cases hm : more.data.toList = []
    · obtain rfl : more = ⟨#[]⟩ := by
        apply ByteArray.ext
        apply Array.toList_inj.1
        exact hm
      cases hp : parseL l with
      | none => exact back_none_nil ⟨a, s, b, p, d⟩ l cut w f0 f1 f2 f3 hp hR hK
      | some x =>
        have hh := parseL_iff.1 hp
        have hx := hh.1
        have e := hh.2
        clear hp hh
        have key := back_some_nil ⟨a, s, b, p, d⟩ cut x w f0 f1 f2 (by rw [← e]; exact f3) hx hR hK
        rw [← e] at key
        exact key
    · cases hp : parseL l with
      | none => exact back_none_more ⟨a, s, b, p, d⟩ l cut more w f0 f1 f2 f3 f4 hp hR hm hK
      | some x =>
        have hh := parseL_iff.1 hp
        have hx := hh.1
        have e := hh.2
        clear hp hh
        have key := back_some_more ⟨a, s, b, p, d⟩ cut more x w f0 f1 f2 (by rw [← e]; exact f3) f4 hx hR hm hK
        rw [← e] at key
        exact key
set_option maxRecDepth 100000 in
theorem wireBack_lifted (os : Os) (started : os.Started) (H : Type) (enc : TypeId × Value → H) :
    ReturnsInHanded {} Tryd.checked os 4 .any (fun w args => (Rows.wireBackSpec.pre enc Tryd.prog Tryd.f4 [] false w args ∧ laidMetH Tryd.prog Rows.wireBackRow.laid w) ∧ sizedMet enc Tryd.prog Tryd.f4 (OpenSpec.ofChange Rows.wireBackSpec) false w args)
      (Rows.wireBackSpec.post enc Tryd.prog Tryd.f4 false true false false) := by
  refine returnsInHanded_of_change_and (C := Tryd.checked) (X := fun w _ => laidMetH Tryd.prog Rows.wireBackRow.laid w) (fun _ _ _ hh h => h.of_heap hh) own started (by kernel_rfl) Tryd.func4
    (ChangeSpec.witness_shaped (enc := enc) (C := Tryd.checked) (os := os) (X := fun w _ => laidMetH Tryd.prog Rows.wireBackRow.laid w) false (World.doorLaid Tryd.prog 21 os) #[.agg #[.int .i64 0, .string ByteArray.empty, .int .i64 0, .string ByteArray.empty, .string ByteArray.empty], .string ByteArray.empty, .int .i64 0, .string ByteArray.empty] 8 rfl (World.shaped_of_RefB (by kernel_rfl) (by kernel_rfl)) (by kernel_rfl) (by kernel_rfl) (by kernel_rfl) (door_tab os _)) ?_
  intro W base args ds gs before hval0 hW _ _ hL _
  have hval : ∀ (j : Nat) t v, Tryd.f4.params[j]? = some t → args[j]? = some v → Value.okWide Tryd.prog W .any base t v := hval0
  have hW' := hW
  obtain ⟨p, q, hA0, hV, rfl, hfz, hnd⟩ := hW
  have hA : DataW.TrodAll enc Tryd.prog W 0 (fun _ => true) true Tryd.f4.params.toList args.toList ds p := hA0
  rw [Tryd.params4] at hA hval
  obtain ⟨v0, vs0, d0, ds0, p0, q0, hargs, rfl, rfl, h0, r0⟩ := trodAll_cons hA
  obtain ⟨v1, vs1, d1, ds1, p1, q1, rfl, rfl, rfl, h1, r1⟩ := trodAll_cons r0
  obtain ⟨v2, vs2, d2, ds2, p2, q2, rfl, rfl, rfl, h2, r2⟩ := trodAll_cons r1
  obtain ⟨v3, vs3, d3, ds3, p3, q3, rfl, rfl, rfl, h3, r3⟩ := trodAll_cons r2
  obtain ⟨rfl, rfl, rfl⟩ := trodAll_nil r3
  obtain rfl : args = #[v0, v1, v2, v3] := by cases args; simp_all
  obtain ⟨rfl, rfl⟩ := trodVars_none hV
  have k0 := h0
  have lt0 : ∀ x ∈ p0, x.block < W.heap.size := by obtain ⟨m, hm⟩ := k0; exact DataW.trod_lt m _ _ _ hm
  obtain ⟨a0, a1, a2, a3, a4, rfl⟩ := record_of (hval 0 23 v0 rfl rfl) h0
  obtain ⟨t, rfl, rfl, rfl, k1⟩ := open_string Tryd.underlying9 (hval 1 9 v1 rfl rfl) h1
  obtain ⟨c, rfl, rfl, rfl, k2⟩ := open_int Tryd.underlying3 (hval 2 3 v2 rfl rfl) h2
  obtain ⟨m, rfl, rfl, rfl, k3⟩ := open_string Tryd.underlying9 (hval 3 9 v3 rfl rfl) h3
  have hT := of_tab hL
  clear hA0 hval0
  simp only [List.append_nil] at hW'
  refine (back_any a0 a1 a2 a3 a4 t c m W hT).mono fun e W' ⟨he, bel⟩ => ?_
  subst he
  exact ⟨_, rfl, _, _, _, [], _, [], hW', trodAll_mk1 (shut_bool Tryd.underlying4 _), (trodAll_cons_mk (Below.trod laidOut (by kernel_rfl) (of_decide_eq_true (by kernel_rfl)) k0 bel lt0) (trodAll_cons_mk (shut_string Tryd.underlying9 k1) (trodAll_cons_mk (shut_int Tryd.underlying3 k2) (trodAll_cons_mk (shut_string Tryd.underlying9 k3) trodAll_mk0)))), rfl, bel.frame _, fun h => by cases h⟩
theorem wireBack_row_holds : Rows.WireBackSaid :=
  OpenClaim.holds_of_wide 4 Tryd.f4 rfl rfl rfl rfl rfl rfl rfl ⟨rfl, rfl, rfl, rfl, rfl⟩ rfl rfl rfl rfl rfl (by kernel_rfl) Tryd.func4 (by kernel_rfl)
    (of_decide_eq_true (by kernel_rfl)) (by unfold Func.isWrapper; first | (rw [if_pos (by decide +kernel)]; kernel_rfl) | (rw [if_neg (by decide +kernel)]; exact ⟨rfl, rfl⟩))
    (fun os started H enc _ => wireBack_lifted os started H enc)
theorem wireBack_holds : Rows.WireBackCardSaid :=
  Claim7.holds_tied_plain_at .later [] [.data] true (true, "6bc4c864bb2ae047585b990ad2d8a4929a3570deb5ab18c2066d07d2952363b2") true
    wireBack_row_holds (fun _ h => by cases h) (by kernel_rfl) (fun _ h => by cases h) wireBack_row_tie rfl ⟨rfl, rfl⟩ (by kernel_rfl) rfl
    (fun f fn hf hfn => by
      obtain rfl : f = 4 := Option.some.inj ((show Tryd.prog.funcNamed Rows.wireBackRow.func = some 4 by kernel_rfl).symm.trans hf) |>.symm
      obtain rfl : fn = Tryd.f4 := (Option.some.inj (Tryd.func4.symm.trans hfn)).symm
      exact ⟨by kernel_rfl, fun j t ht => by
        rw [Tryd.params4] at ht
        have hm : t ∈ [23, 9, 3, 9] := by simpa using Array.mem_of_getElem? ht
        have hall : ([23, 9, 3, 9].all fun u => !Tryd.prog.wantsStandIn u) = true := by kernel_rfl
        exact (show Tryd.prog.wantsStandIn t = false by simpa using List.all_eq_true.1 hall t hm)⟩)
    (by kernel_rfl)
end Go.Proofs.YtkbaalenbpgheaaDoor
