/- Texts of this proof, one behind the other. -/
import Derived.Laws.IdiomRangeMap
import Derived.Deep.LoopGhost
import Derived.Shelf.Abstract
import Derived.Shelf.GgClosure.StringsRunes
import Derived.Test.YtkbaalenbpgheaaGreatDoorPart9
/- A row is looked up; a row is taken away. -/
namespace Go.Proofs.YtkbaalenbpgheaaGreatDoor
open Go.RowKit Go.Maps
attribute [local go_sem ↓] Go.wp_at_zero Go.wp_at_succ
theorem zero42 (w : World) : (zeroValue 42).run Tryz.prog w = .ok (cellV cl0) w := by kernel_rfl
/-- What is found at a place. -/
def atC (σ : Tab) (t r : ByteArray) : Cl :=
  match σ t r with
  | some p => ⟨t, r, p.1, p.2⟩
  | none => cl0
theorem atC_some {σ : Tab} {t r s v : ByteArray} (h : σ t r = some (s, v)) : atC σ t r = ⟨t, r, s, v⟩ := by unfold atC; rw [h]
theorem atC_none {σ : Tab} {t r : ByteArray} (h : σ t r = none) : atC σ t r = cl0 := by unfold atC; rw [h]
theorem look_run {W : World} {mo : Option Nat} {n : Nat} {σ : Tab} (h0 : mo = none → σ = tab0) (hm : ∀ m, mo = some m → ∃ D, W.ownsMap Tryz.prog 133 cellElem m n D ∧ Reads D σ) {t r : ByteArray} (ht : t.size ≤ 60) (hr : r.size ≤ 60) :
    (Instr.lookup 86 (.map mo) (.agg #[.string t, .string r]) false).run Tryz.prog W = .ok (.agg #[.string (atC σ t r).t, .string (atC σ t r).r, .string (atC σ t r).s, .string (atC σ t r).v]) W := by
  cases mo with
  | none =>
    rw [atC_none (by rw [h0 rfl]; rfl)]
    exact look_nil false law69 Tryz.underlying86 (zero42 W) (key69 t r ht hr)
  | some m =>
    obtain ⟨D, ho, hR⟩ := hm m rfl
    obtain ⟨v, ps, hrun, hv⟩ := ho.lookup law69 Tryz.underlying86 (zero42 W) (cellElem_mk cl0) (key69 t r ht hr)
    rw [hrun]
    cases hx : σ t r with
    | none =>
      rw [(hR.absent ht hr hx).2] at hv
      rw [atC_none hx, cellElem_is hv]
      rfl
    | some p =>
      have e := (hR.there (c := ⟨t, r, p.1, p.2⟩) hx).2 (cellD cl0)
      simp only at e
      rw [e] at hv
      rw [atC_some hx, cellElem_is hv]
      rfl
theorem look_ok_run {W : World} {mo : Option Nat} {n : Nat} {σ : Tab} (h0 : mo = none → σ = tab0) (hm : ∀ m, mo = some m → ∃ D, W.ownsMap Tryz.prog 133 cellElem m n D ∧ Reads D σ) {t r : ByteArray} (ht : t.size ≤ 60) (hr : r.size ≤ 60) :
    (Instr.lookup 86 (.map mo) (.agg #[.string t, .string r]) true).run Tryz.prog W = .ok (.tuple #[.agg #[.string (atC σ t r).t, .string (atC σ t r).r, .string (atC σ t r).s, .string (atC σ t r).v], .bool (σ t r).isSome]) W := by
  cases mo with
  | none =>
    have e : σ t r = none := by rw [h0 rfl]; rfl
    rw [atC_none e, e]
    exact look_nil true law69 Tryz.underlying86 (zero42 W) (key69 t r ht hr)
  | some m =>
    obtain ⟨D, ho, hR⟩ := hm m rfl
    obtain ⟨v, ps, hrun, hv⟩ := ho.look_ok law69 Tryz.underlying86 (zero42 W) (cellElem_mk cl0) (key69 t r ht hr)
    rw [hrun]
    cases hx : σ t r with
    | none =>
      rw [(hR.absent ht hr hx).2] at hv
      rw [atC_none hx, cellElem_is hv, (hR.absent ht hr hx).1]
      rfl
    | some p =>
      have e := hR.there (c := ⟨t, r, p.1, p.2⟩) hx
      simp only at e
      rw [e.2] at hv
      rw [atC_some hx, cellElem_is hv, e.1]
      rfl
theorem atC_own {σ : Tab} {t r s : ByteArray} (hs : 1 ≤ s.size) : ((atC σ t r).s.toList == s.toList) = ownB (σ t r) s := by
  rw [Lib.toList_data, Lib.toList_data]
  cases hx : σ t r with
  | none =>
    rw [atC_none hx, ownB_none]
    have : s.data.toList ≠ [] := fun e => by
      have h1 : s.data.toList.length = s.size := Array.length_toList
      rw [e] at h1
      simp at h1
      omega
    rw [beq_eq_false_iff_ne]
    exact fun e => this e.symm
  | some p =>
    obtain ⟨a, b⟩ := p
    rw [atC_some hx, ownB_some, Bool.eq_iff_iff]
    simp only [beq_iff_eq, decide_eq_true_eq]
    exact ⟨fun h => bytes_eq h, fun h => by rw [h]⟩
theorem field42 (a b c d : ByteArray) (W : World) : (Instr.field 42 (.agg #[.string a, .string b, .string c, .string d]) 2).run Tryz.prog W = .ok (.string c) W := by kernel_rfl
set_option maxRecDepth 100000 in
set_option maxHeartbeats 1000000 in
theorem del_any (b : Nat) (ty : TypeId) (pre : Array Value) (mo : Option Nat) (t r s : ByteArray) (n : Nat) (σ : Tab) (w : World) (ht : t.size ≤ 60) (hr : r.size ≤ 60) (hs : 1 ≤ s.size) (hV : TabV w b ty pre mo n σ) :
    Calls Tryz.prog 74 #[.pointer (some ⟨b, pre.size, none⟩), .agg #[.string t, .string r], .string s] w fun e w' => e = .returned (.tuple #[]) ∧ Upd w w' b ty pre mo mo n (if ownB (σ t r) s = true then delC t r σ else σ) := by
  have c1 : w.cell? ⟨b, pre.size, none⟩ = some (.map mo) := hV.cell
  have hb := hV.row.lt
  have bel : Below w.heap.size w (w.alloc (.cells #[.string t, .string r] 133)) := (Below.refl _ w).alloc (Nat.le_refl _) _
  have hl := look_run (W := (w.alloc (.cells #[.string t, .string r] 133)).drew) (hV.below bel).none (fun m e => (hV.below bel).held m e) ht hr
  have ho := atC_own (σ := σ) (t := t) (r := r) hs
  generalize atC σ t r = x at hl ho
  have hf := field42 x.t x.r x.s x.v
  cases hown : ownB (σ t r) s
  · rw [hown] at ho
    have HV := hide hV
    clear hV hown
    go_enter Tryz.func74, Tryz.ntmps74
    go_wp2
    go_region
    go_wp2
    go_end0
    exact ⟨rfl, HV.out.below bel.drew, .inl rfl, Stirred.of_below bel.drew _⟩
  · rw [hown] at ho
    cases mo with
    | none =>
      rw [hV.none rfl] at hown
      cases hown
    | some m =>
      obtain ⟨D, hm, hR⟩ := hV.held m rfl
      obtain ⟨w1, hrun, ho1, ht1⟩ := (hm.alloc (.cells #[.string t, .string r] 133)).drew.drew.drop law69 Tryz.underlying86 (key69 t r ht hr) 0
      have HR := hide hV.row
      have HA := hide (hV.apart rfl)
      have HO := hide ho1
      have HT := hide ht1
      have Hσ := hide (hR.del (t0 := t) (r0 := r) ht hr)
      clear hV hown hR hm ho1 ht1
      go_enter Tryz.func74, Tryz.ntmps74
      go_wp2
      go_region
      go_wp2
      go_region
      go_end0
      have t0 : Stirred (b :: (some m).toList) w (w.alloc (.cells #[.string t, .string r] 133)).drew.drew := Stirred.of_below ((Below.refl _ w).alloc (Nat.le_refl _) _).drew.drew _
      have t1 := Stirred.of_turned HT.out
      exact ⟨rfl, ⟨(HR.out.alloc _).drew.drew.turned t1 (by simp; exact fun e => HA.out e.symm), (fun e => by cases e), (fun m' e => by cases e; exact ⟨_, HO.out, Hσ.out⟩)⟩,
        .inl rfl, t0.andThen t1 (fun j hj => .inl (by simp at hj; simp [hj]))⟩
end Go.Proofs.YtkbaalenbpgheaaGreatDoor

/- All rows of a subject are taken away: the closure that tells them, and the library's DeleteFunc over it. -/
namespace Go.Proofs.YtkbaalenbpgheaaGreatDoor
open Go.RowKit Go.Maps
attribute [local go_sem ↓] Go.wp_at_zero Go.wp_at_succ
theorem same_bytes (a b : ByteArray) : (a.toList == b.toList) = decide (a = b) := by
  rw [Lib.toList_data, Lib.toList_data, Bool.eq_iff_iff]
  simp only [beq_iff_eq, decide_eq_true_eq]
  exact ⟨fun h => bytes_eq h, fun h => by rw [h]⟩
set_option maxRecDepth 100000 in
set_option maxHeartbeats 1000000 in
theorem goneFn_any (t r s : ByteArray) (c : Cl) (B : Nat) (W : World) (hB : W.cell? ⟨B, 0, none⟩ = some (.string s)) :
    Calls Tryz.prog 106 #[.agg #[.string t, .string r], .agg #[.string c.t, .string c.r, .string c.s, .string c.v], .pointer (some ⟨B, 0, none⟩)] W fun e w' => e = .returned (.bool (decide (c.s = s))) ∧ W.grownBy w' none := by
  have hlt : B < W.heap.size := block_lt_of_cell hB
  have h2 := same_bytes c.s s
  go_enter Tryz.func106, Tryz.ntmps106
  go_wp2
  go_ret
  exact ⟨ret_val (by simp), (World.grownBy_alloc W _ none).andThen (World.grownBy_alloc _ _ none) (fun j hj => by cases hj)⟩
set_option maxRecDepth 100000 in
set_option maxHeartbeats 4000000 in
theorem deleteFunc_any (b B n : Nat) (s : ByteArray) (D : DataW Unit) (w : World) (hown : w.ownsMap Tryz.prog 133 cellElem b n D) (hB : w.cell? ⟨B, 0, none⟩ = some (.string s)) (hne : B ≠ b) :
    Calls Tryz.prog 105 #[.map (some b), .func (.func 106) #[] #[.pointer (some ⟨B, 0, none⟩)]] w fun e w' => e = .returned (.tuple #[]) ∧ w'.ownsMap Tryz.prog 133 cellElem b n (Lib.deleteFuncD (subjD s) D) ∧ w.grownBy w' (some b) := by
  obtain ⟨es0, rfl, hap, hkeys⟩ := hown.entries law69
  have hBl : B < w.heap.size := block_lt_of_cell hB
  have eg : ∀ args w, (callFunc 106 args).run Tryz.prog w = .ok (.enter 106 args) w := enters_of Tryz.func106 (by kernel_rfl) rfl
  go_enter Tryz.func105, Tryz.ntmps105
  go_wp2_with (first
    | (at_range; refine wpList_range_own _ rfl _ 86 rfl 133 42 law69 Tryz.underlying86 cellElem b n _ rfl hown ?_; intro w0 hrg0 hg0 hs0)
    | go_in)
  go_frame
  go_loopw [8] (fun _ wr => ∃ (left : Lit → Bool) (cnt : Nat), wr.ranges Tryz.prog 133 cellElem b w.heap.size n (Fk (subjD s) es0 left) left cnt ∧ w.grownBy wr (some b))
    (fun _ wr => wr.rangeLeft b w.heap.size)
  case atStart => exact ⟨_, _, by rw [Fk_start hkeys]; exact hrg0, hg0.but _⟩
  case round =>
    obtain ⟨left, cnt, hrg, hgw⟩ := hrel
    go_wp2_with (first
      | (at_next; refine wpList_next_ranges _ rfl _ rfl 133 law69 cellElem (fun p : ByteArray × ByteArray => Value.agg #[.string p.1, .string p.2]) cellV (fun key kl h => key69_inv h) (fun v y h => by obtain ⟨c, hc, _⟩ := cellElem_inv h; exact ⟨c, hc⟩) b w.heap.size n _ _ _ rfl hrg ?_ ?_)
      | go_in)
    · intro _ hl0
      go_wp2
      go_end0
      exact ⟨rfl, by rw [← Fk_end hl0]; exact hrg.owns, hgw⟩
    · intro xt xr c kl yd yp w1 cnt1 hkey hlx hv hat hrg1 hlt hg1 hs1 hen
      obtain ⟨rfl, rfl⟩ : yd = cellD c ∧ yp = [] := by
        rw [cellElem_mk] at hv
        simp only [Option.some.injEq, Prod.mk.injEq] at hv
        exact ⟨hv.1.symm, hv.2.symm⟩
      have hgw1 := hgw.andThen hg1 (fun j hj => by cases hj; exact Or.inl (Nat.le_refl _))
      have hb1 : w1.cell? ⟨B, 0, none⟩ = some (.string s) := hgw1.cell hB (by simpa using hne)
      have hB1 : B < w1.heap.size := block_lt_of_cell hb1
      have hcell : ((w1.alloc (.cells #[.string xt, .string xr] 133)).alloc (.cells #[.string c.t, .string c.r, .string c.s, .string c.v] 42)).cell? ⟨B, 0, none⟩ = some (.string s) :=
        ((World.grownBy_alloc w1 _ none).andThen (World.grownBy_alloc _ _ none) (fun j hj => by cases hj)).cell hb1 (by simp)
      have HC := hide (goneFn_any xt xr s c B _ hcell)
      have hp := subjD_cell s kl c
      have hbl := hrg1.owns.lt
      have hrl := hrg1.lt
      have Hat := hide hat
      have Hgw := hide hgw1
      have Hr1 := hide hrg1
      have Hr := hide hrg
      have hgA : w1.grownBy ((w1.alloc (.cells #[.string xt, .string xr] 133)).alloc (.cells #[.string c.t, .string c.r, .string c.s, .string c.v] 42)) none := (World.grownBy_alloc w1 _ none).andThen (World.grownBy_alloc _ _ none) (fun j hj => by cases hj)
      have HA := hide hgA
      clear hat hgw1 hg1 hgw hg0 hs0 hs1 hcell hB hgA hrg1 hrg
      unfold cellV at hen ⊢
      cases hd : decide (c.s = s) <;> rw [hd] at HC hp
      · go_wp2_with (go_at_fn 106; (with_reducible refine HC.out.mono ?_); rintro e w2 ⟨rfl, hg2⟩)
        have hg3 := HA.out.andThen hg2 (fun j hj => by cases hj)
        have hrg2 := Hr1.out.kept hg3 (by simp) (by simp)
        go_roundw
        case rel => exact ⟨_, cnt1, by rw [← Fk_stays hap (law69.key hkey) hlx hp Hat.out]; exact hrg2, Hgw.out.andThen hg3 (fun j hj => by cases hj)⟩
        case measure => rw [hrg2.left_eq, Hr.out.left_eq]; exact hlt
      · have b0 : ((w1.alloc (.cells #[.string xt, .string xr] 133)).alloc (.cells #[.string c.t, .string c.r, .string c.s, .string c.v] 42)).cell? ⟨w1.heap.size, 0, none⟩ = some (.string xt) := by simp
        have b1 : ((w1.alloc (.cells #[.string xt, .string xr] 133)).alloc (.cells #[.string c.t, .string c.r, .string c.s, .string c.v] 42)).cell? ⟨w1.heap.size, 1, none⟩ = some (.string xr) := by simp
        go_wp2_with (first
          | (go_at_fn 106; (with_reducible refine HC.out.mono ?_); rintro e w2 ⟨rfl, hg2⟩
             have hc0 := hg2.cell b0 (by simp)
             have hc1 := hg2.cell b1 (by simp)
             have hg3 := HA.out.andThen hg2 (fun j hj => by cases hj)
             have hrg2 := Hr1.out.kept hg3 (by simp) (by simp))
          | (at_delete; refine wpList_delete_ranges _ rfl _ _ 86 133 rfl 42 law69 Tryz.underlying86 cellElem b w.heap.size n _ _ _ rfl hrg2 _ _ rfl hkey ?_; intro w3 cnt3 hrg3 hle hturn; go_frame))
        rw [strike_twice] at hrg3
        go_roundw
        case rel => exact ⟨_, cnt3, by rw [← Fk_struck hap (law69.key hkey) hlx hp Hat.out]; exact hrg3, (Hgw.out.andThen hg3 (fun j hj => by cases hj)).andThen hturn.grown (fun j hj => by cases hj; exact Or.inr rfl)⟩
        case measure => rw [hrg3.left_eq, Hr.out.left_eq]; omega
set_option maxRecDepth 100000 in
set_option maxHeartbeats 2000000 in
theorem deleteFunc_nil (fv : Value) (w : World) : Calls Tryz.prog 105 #[.map none, fv] w fun e w' => e = .returned (.tuple #[]) ∧ Below w.heap.size w w' := by
  have hrg := run_range_nilMap (P := Tryz.prog) w 86 _ _ Tryz.underlying86
  have hnx : ∀ ty, (Instr.next (.pointer (some ⟨w.heap.size, 0, none⟩)) false ty).run Tryz.prog (w.alloc (.mapIter none 0 #[] 0)) = _ := fun ty => run_next_nilMap _ ty 0 0 #[]
  go_enter Tryz.func105, Tryz.ntmps105
  go_wp2
  refine wp_loop_rounds 1 ?_
  rw [rounds_succ]
  go_wp2
  go_end0
  exact ⟨rfl, (Below.refl _ w).alloc (Nat.le_refl _) _⟩
set_option maxRecDepth 100000 in
set_option maxHeartbeats 1000000 in
theorem gone_any (b : Nat) (ty : TypeId) (pre : Array Value) (mo : Option Nat) (s : ByteArray) (n : Nat) (σ : Tab) (w : World) (hV : TabV w b ty pre mo n σ) :
    Calls Tryz.prog 75 #[.pointer (some ⟨b, pre.size, none⟩), .string s] w fun e w' => e = .returned (.tuple #[]) ∧ Upd w w' b ty pre mo mo n (goneC s σ) := by
  have c1 : w.cell? ⟨b, pre.size, none⟩ = some (.map mo) := hV.cell
  have hb := hV.row.lt
  have bel : Below w.heap.size w (w.alloc (.cells #[.string s] 9)) := (Below.refl _ w).alloc (Nat.le_refl _) _
  cases mo with
  | none =>
    have HN := hide (deleteFunc_nil (.func (.func 106) #[] #[.pointer (some ⟨w.heap.size, 0, none⟩)]) (w.alloc (.cells #[.string s] 9)))
    have HV := hide hV
    clear hV
    go_enter Tryz.func75, Tryz.ntmps75
    go_wp2_with (go_at_call 105; (with_reducible refine HN.out.mono ?_); rintro e w1 ⟨rfl, hb1⟩)
    go_end0
    have hb2 := bel.trans (hb1.mono (by simp))
    have h1 := HV.out.below hb2
    have e : goneC s σ = σ := by
      rw [h1.none rfl]
      funext t r
      rfl
    rw [e]
    exact ⟨rfl, h1, .inl rfl, Stirred.of_below hb2 _⟩
  | some m =>
    obtain ⟨D, hm, hR⟩ := hV.held m rfl
    have hml := hm.lt
    have HD := hide (deleteFunc_any m w.heap.size n s D (w.alloc (.cells #[.string s] 9)) (hm.alloc _) (by simp) (by omega))
    have HR := hide hV.row
    have HA := hide (hV.apart rfl)
    have Hσ := hide (hR.gone s)
    clear hV hm hR
    go_enter Tryz.func75, Tryz.ntmps75
    go_wp2_with (go_at_call 105; (with_reducible refine HD.out.mono ?_); rintro e w1 ⟨rfl, ho, hg⟩)
    go_end0
    have t0 : Stirred (b :: (some m).toList) w (w.alloc (.cells #[.string s] 9)) := Stirred.of_below bel _
    have t1 := Stirred.of_grown hg
    exact ⟨rfl, ⟨(HR.out.alloc _).turned t1 (by simp; exact fun e => HA.out e.symm), (fun e => by cases e), (fun m' e => by cases e; exact ⟨_, ho, Hσ.out⟩)⟩,
      .inl rfl, t0.andThen t1 (fun j hj => .inl (by simp at hj; simp [hj]))⟩
end Go.Proofs.YtkbaalenbpgheaaGreatDoor

/- A text's runes and its bytes: some rune is outside of what a value may have just where some byte is. -/
namespace Go.Proofs.YtkbaalenbpgheaaGreatDoor
open Go.Lib
/-- A rune outside of what a value may have. -/
def outP (x : Nat) : Bool := decide (x < 32) || decide (126 < x)
theorem decode_low (s : ByteArray) (i : Nat) (h : (s.get! i).toNat < 128) : Utf8.decode s i = ((s.get! i).toNat, 1) := by
  unfold Utf8.decode
  simp only [Nat.add_zero]
  rw [if_pos h]
theorem decode_high (s : ByteArray) (i : Nat) (h : 128 ≤ (s.get! i).toNat) : 128 ≤ (Utf8.decode s i).1 := by
  unfold Utf8.decode
  simp only [Nat.add_zero]
  rw [if_neg (by omega)]
  have hr : 128 ≤ Utf8.runeError := by decide
  split
  · split
    · simp only; omega
    · exact hr
  · split
    · split
      · rename_i h1
        simp only [Bool.and_eq_true, decide_eq_true_eq] at h1
        simp only; omega
      · exact hr
    · split
      · split
        · rename_i h1
          simp only [Bool.and_eq_true, decide_eq_true_eq] at h1
          simp only; omega
        · exact hr
      · exact hr
theorem get_data (s : ByteArray) (i : Nat) : s.get! i = s.data.toList.getD i 0 := by
  cases s with
  | mk a =>
    show a[i]! = _
    rw [List.getD_eq_getElem?_getD, Array.getElem?_toList]
    by_cases h : i < a.size
    · rw [getElem!_pos a i h, Array.getElem?_eq_getElem h]; rfl
    · rw [getElem!_neg a i h, Array.getElem?_eq_none (by show a.size ≤ i; omega)]; rfl
theorem idx_from (s : ByteArray) : ∀ (f pos : Nat), s.size ≤ pos + f → decide (0 ≤ idxFuncFrom outP true s f pos) = !(s.data.toList.drop pos).all inB
  | 0, pos, h => by
    rw [List.drop_of_length_le (by rw [← size_eq]; omega)]
    rfl
  | f + 1, pos, h => by
    by_cases hp : pos < s.size
    · have hl : pos < s.data.toList.length := by rw [← size_eq]; exact hp
      have hd : s.data.toList.drop pos = s.get! pos :: s.data.toList.drop (pos + 1) := by
        rw [List.drop_eq_getElem_cons hl, get_data, List.getD_eq_getElem?_getD, List.getElem?_eq_getElem hl]; rfl
      rw [hd, List.all_cons, idxFuncFrom, if_pos hp]
      by_cases hlow : (s.get! pos).toNat < 128
      · rw [decode_low s pos hlow]
        simp only
        by_cases hin : inB (s.get! pos) = true
        · have ho : outP (s.get! pos).toNat = false := by
            unfold inB at hin
            simp only [Bool.and_eq_true, decide_eq_true_eq] at hin
            unfold outP
            rw [decide_eq_false (by omega), decide_eq_false (by omega)]; rfl
          rw [ho, if_neg (by decide), hin, Bool.true_and]
          exact idx_from s f (pos + 1) (by omega)
        · have ho : outP (s.get! pos).toNat = true := by
            unfold inB at hin
            simp only [Bool.and_eq_true, decide_eq_true_eq] at hin
            unfold outP
            by_cases h1 : (s.get! pos).toNat < 32
            · rw [decide_eq_true h1]; rfl
            · rw [decide_eq_true (p := 126 < _) (by omega), Bool.or_true]
          rw [ho, if_pos rfl, eq_false_of_ne_true hin]
          simp
      · have h1 := decode_high s pos (by omega)
        have ho : outP (Utf8.decode s pos).1 = true := by unfold outP; rw [decide_eq_true (p := 126 < _) (by omega), Bool.or_true]
        have hin : inB (s.get! pos) = false := by unfold inB; rw [decide_eq_false (p := _ ≤ 126) (by omega), Bool.and_false]
        rw [ho, if_pos rfl, hin]
        simp
    · rw [idxFuncFrom, if_neg hp, List.drop_of_length_le (by rw [← size_eq]; omega)]
      rfl
/-- Some rune of a text is outside, just where some byte is. -/
theorem idx_in (s : ByteArray) : decide (0 ≤ idxFunc outP true s) = !s.data.toList.all inB := idx_from s s.size 0 (by omega)
end Go.Proofs.YtkbaalenbpgheaaGreatDoor
