/- All rows of a subject are taken away: the closure that tells them, and the library's DeleteFunc over it. -/
import Derived.Test.YtpfihhilgeihoaaDels
import Derived.Laws.IdiomRangeMap
import Derived.Deep.LoopGhost
import Derived.Shelf.Abstract
namespace Go.Proofs.Ytpfihhilgeihoaa
open Go.RowKit Go.Maps
attribute [local go_sem ↓] Go.wp_at_zero Go.wp_at_succ
theorem same_bytes (a b : ByteArray) : (a.toList == b.toList) = decide (a = b) := by
  rw [Lib.toList_data, Lib.toList_data, Bool.eq_iff_iff]
  simp only [beq_iff_eq, decide_eq_true_eq]
  exact ⟨fun h => bytes_eq h, fun h => by rw [h]⟩
set_option maxRecDepth 100000 in
set_option maxHeartbeats 1000000 in
theorem goneFn_any (t r s : ByteArray) (c : Cl) (B : Nat) (W : World) (hB : W.cell? ⟨B, 0, none⟩ = some (.string s)) :
    Calls Try.prog 50 #[.agg #[.string t, .string r], .agg #[.string c.t, .string c.r, .string c.s, .string c.v], .pointer (some ⟨B, 0, none⟩)] W fun e w' => e = .returned (.bool (decide (c.s = s))) ∧ W.grownBy w' none := by
  have hlt : B < W.heap.size := block_lt_of_cell hB
  have h2 := same_bytes c.s s
  go_enter Try.func50, Try.ntmps50
  go_wp2
  go_ret
  exact ⟨ret_val (by simp), (World.grownBy_alloc W _ none).andThen (World.grownBy_alloc _ _ none) (fun j hj => by cases hj)⟩
set_option maxRecDepth 100000 in
set_option maxHeartbeats 4000000 in
theorem deleteFunc_any (b B n : Nat) (s : ByteArray) (D : DataW Unit) (w : World) (hown : w.ownsMap Try.prog 69 cellElem b n D) (hB : w.cell? ⟨B, 0, none⟩ = some (.string s)) (hne : B ≠ b) :
    Calls Try.prog 49 #[.map (some b), .func (.func 50) #[] #[.pointer (some ⟨B, 0, none⟩)]] w fun e w' => e = .returned (.tuple #[]) ∧ w'.ownsMap Try.prog 69 cellElem b n (Lib.deleteFuncD (subjD s) D) ∧ w.grownBy w' (some b) := by
  obtain ⟨es0, rfl, hap, hkeys⟩ := hown.entries law69
  have hBl : B < w.heap.size := block_lt_of_cell hB
  have eg : ∀ args w, (callFunc 50 args).run Try.prog w = .ok (.enter 50 args) w := enters_of Try.func50 (by kernel_rfl) rfl
  go_enter Try.func49, Try.ntmps49
  go_wp2_with (first
    | (at_range; refine wpList_range_own _ rfl _ 31 rfl 69 42 law69 Try.underlying31 cellElem b n _ rfl hown ?_; intro w0 hrg0 hg0 hs0)
    | go_in)
  go_frame
  go_loopw [8] (fun _ wr => ∃ (left : Lit → Bool) (cnt : Nat), wr.ranges Try.prog 69 cellElem b w.heap.size n (Fk (subjD s) es0 left) left cnt ∧ w.grownBy wr (some b))
    (fun _ wr => wr.rangeLeft b w.heap.size)
  case atStart => exact ⟨_, _, by rw [Fk_start hkeys]; exact hrg0, hg0.but _⟩
  case round =>
    obtain ⟨left, cnt, hrg, hgw⟩ := hrel
    go_wp2_with (first
      | (at_next; refine wpList_next_ranges _ rfl _ rfl 69 law69 cellElem (fun p : ByteArray × ByteArray => Value.agg #[.string p.1, .string p.2]) cellV (fun key kl h => key69_inv h) (fun v y h => by obtain ⟨c, hc, _⟩ := cellElem_inv h; exact ⟨c, hc⟩) b w.heap.size n _ _ _ rfl hrg ?_ ?_)
      | go_in)
    · intro _ hl0
      go_wp2
      go_end0
      exact ⟨rfl, by rw [← Fk_end hl0]; exact hrg.owns, hgw⟩
    · intro xt xr c kl yd yp w1 cnt1 hkey hlx hv hat hrg1 hlt hg1 hs1 hen
      obtain ⟨rfl, rfl⟩ : yd = cellD c ∧ yp = [] := by
        rw [cellElem_mk] at hv
        simp only [Option.some.injEq, Prod.mk.injEq] at hv
        exact ⟨hv.1.symm, hv.2.symm⟩
      have hgw1 := hgw.andThen hg1 (fun j hj => by cases hj; exact Or.inl (Nat.le_refl _))
      have hb1 : w1.cell? ⟨B, 0, none⟩ = some (.string s) := hgw1.cell hB (by simpa using hne)
      have hB1 : B < w1.heap.size := block_lt_of_cell hb1
      have hcell : ((w1.alloc (.cells #[.string xt, .string xr] 69)).alloc (.cells #[.string c.t, .string c.r, .string c.s, .string c.v] 42)).cell? ⟨B, 0, none⟩ = some (.string s) :=
        ((World.grownBy_alloc w1 _ none).andThen (World.grownBy_alloc _ _ none) (fun j hj => by cases hj)).cell hb1 (by simp)
      have HC := hide (goneFn_any xt xr s c B _ hcell)
      have hp := subjD_cell s kl c
      have hbl := hrg1.owns.lt
      have hrl := hrg1.lt
      have Hat := hide hat
      have Hgw := hide hgw1
      have Hr1 := hide hrg1
      have Hr := hide hrg
      have hgA : w1.grownBy ((w1.alloc (.cells #[.string xt, .string xr] 69)).alloc (.cells #[.string c.t, .string c.r, .string c.s, .string c.v] 42)) none := (World.grownBy_alloc w1 _ none).andThen (World.grownBy_alloc _ _ none) (fun j hj => by cases hj)
      have HA := hide hgA
      clear hat hgw1 hg1 hgw hg0 hs0 hs1 hcell hB hgA hrg1 hrg
      unfold cellV at hen ⊢
      cases hd : decide (c.s = s) <;> rw [hd] at HC hp
      · go_wp2_with (go_at_fn 50; (with_reducible refine HC.out.mono ?_); rintro e w2 ⟨rfl, hg2⟩)
        have hg3 := HA.out.andThen hg2 (fun j hj => by cases hj)
        have hrg2 := Hr1.out.kept hg3 (by simp) (by simp)
        go_roundw
        case rel => exact ⟨_, cnt1, by rw [← Fk_stays hap (law69.key hkey) hlx hp Hat.out]; exact hrg2, Hgw.out.andThen hg3 (fun j hj => by cases hj)⟩
        case measure => rw [hrg2.left_eq, Hr.out.left_eq]; exact hlt
      · have b0 : ((w1.alloc (.cells #[.string xt, .string xr] 69)).alloc (.cells #[.string c.t, .string c.r, .string c.s, .string c.v] 42)).cell? ⟨w1.heap.size, 0, none⟩ = some (.string xt) := by simp
        have b1 : ((w1.alloc (.cells #[.string xt, .string xr] 69)).alloc (.cells #[.string c.t, .string c.r, .string c.s, .string c.v] 42)).cell? ⟨w1.heap.size, 1, none⟩ = some (.string xr) := by simp
        go_wp2_with (first
          | (go_at_fn 50; (with_reducible refine HC.out.mono ?_); rintro e w2 ⟨rfl, hg2⟩
             have hc0 := hg2.cell b0 (by simp)
             have hc1 := hg2.cell b1 (by simp)
             have hg3 := HA.out.andThen hg2 (fun j hj => by cases hj)
             have hrg2 := Hr1.out.kept hg3 (by simp) (by simp))
          | (at_delete; refine wpList_delete_ranges _ rfl _ _ 31 69 rfl 42 law69 Try.underlying31 cellElem b w.heap.size n _ _ _ rfl hrg2 _ _ rfl hkey ?_; intro w3 cnt3 hrg3 hle hturn; go_frame))
        rw [strike_twice] at hrg3
        go_roundw
        case rel => exact ⟨_, cnt3, by rw [← Fk_struck hap (law69.key hkey) hlx hp Hat.out]; exact hrg3, (Hgw.out.andThen hg3 (fun j hj => by cases hj)).andThen hturn.grown (fun j hj => by cases hj; exact Or.inr rfl)⟩
        case measure => rw [hrg3.left_eq, Hr.out.left_eq]; omega
set_option maxRecDepth 100000 in
set_option maxHeartbeats 2000000 in
theorem deleteFunc_nil (fv : Value) (w : World) : Calls Try.prog 49 #[.map none, fv] w fun e w' => e = .returned (.tuple #[]) ∧ Below w.heap.size w w' := by
  have hrg := run_range_nilMap (P := Try.prog) w 31 _ _ Try.underlying31
  have hnx : ∀ ty, (Instr.next (.pointer (some ⟨w.heap.size, 0, none⟩)) false ty).run Try.prog (w.alloc (.mapIter none 0 #[] 0)) = _ := fun ty => run_next_nilMap _ ty 0 0 #[]
  go_enter Try.func49, Try.ntmps49
  go_wp2
  refine wp_loop_rounds 1 ?_
  rw [rounds_succ]
  go_wp2
  go_end0
  exact ⟨rfl, (Below.refl _ w).alloc (Nat.le_refl _) _⟩
set_option maxRecDepth 100000 in
set_option maxHeartbeats 1000000 in
theorem gone_any (b : Nat) (mo : Option Nat) (s : ByteArray) (n : Nat) (σ : Tab) (w : World) (hV : TabV w b mo n σ) :
    Calls Try.prog 36 #[.pointer (some ⟨b, 0, none⟩), .string s] w fun e w' => e = .returned (.tuple #[]) ∧ Upd w w' b mo mo n (goneC s σ) := by
  have c1 : w.cell? ⟨b, 0, none⟩ = some (.map mo) := hV.row.cell 0
  have hb := hV.row.lt
  have bel : Below w.heap.size w (w.alloc (.cells #[.string s] 9)) := (Below.refl _ w).alloc (Nat.le_refl _) _
  cases mo with
  | none =>
    have HN := hide (deleteFunc_nil (.func (.func 50) #[] #[.pointer (some ⟨w.heap.size, 0, none⟩)]) (w.alloc (.cells #[.string s] 9)))
    have HV := hide hV
    clear hV
    go_enter Try.func36, Try.ntmps36
    go_wp2_with (go_at_call 49; (with_reducible refine HN.out.mono ?_); rintro e w1 ⟨rfl, hb1⟩)
    go_end0
    have hb2 := bel.trans (hb1.mono (by simp))
    have h1 := HV.out.below hb2
    have e : goneC s σ = σ := by
      rw [h1.none rfl]
      funext t r
      rfl
    rw [e]
    exact ⟨rfl, h1, .inl rfl, Stirred.of_below hb2 _⟩
  | some m =>
    obtain ⟨D, hm, hR⟩ := hV.held m rfl
    have hml := hm.lt
    have HD := hide (deleteFunc_any m w.heap.size n s D (w.alloc (.cells #[.string s] 9)) (hm.alloc _) (by simp) (by omega))
    have HR := hide hV.row
    have HA := hide (hV.apart rfl)
    have Hσ := hide (hR.gone s)
    clear hV hm hR
    go_enter Try.func36, Try.ntmps36
    go_wp2_with (go_at_call 49; (with_reducible refine HD.out.mono ?_); rintro e w1 ⟨rfl, ho, hg⟩)
    go_end0
    have t0 : Stirred (b :: (some m).toList) w (w.alloc (.cells #[.string s] 9)) := Stirred.of_below bel _
    have t1 := Stirred.of_grown hg
    exact ⟨rfl, ⟨(HR.out.alloc _).turned t1 (by simp; exact fun e => HA.out e.symm), (fun e => by cases e), (fun m' e => by cases e; exact ⟨_, ho, Hσ.out⟩)⟩,
      .inl rfl, t0.andThen t1 (fun j hj => .inl (by simp at hj; simp [hj]))⟩
end Go.Proofs.Ytpfihhilgeihoaa
