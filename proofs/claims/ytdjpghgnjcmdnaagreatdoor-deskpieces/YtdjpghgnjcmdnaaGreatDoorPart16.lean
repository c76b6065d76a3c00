/- Texts of this proof, one behind the other. -/
import Derived.Laws.IdiomRangeMap
import Derived.Deep.LoopGhost
import Derived.Shelf.Abstract
import Derived.Test.YtdjpghgnjcmdnaaGreatDoorPart15
/- A row is looked up; a row is taken away. -/
namespace Go.Proofs.YtdjpghgnjcmdnaaGreatDoor
open Go.RowKit Go.Maps
attribute [local go_sem ↓] Go.wp_at_zero Go.wp_at_succ
theorem zero42 (w : World) : (zeroValue 129).run Tryz.prog w = .ok (cellV cl0) w := by kernel_rfl
/-- What is found at a place. -/
def atC (σ : Tab) (t r : ByteArray) : Cl :=
  match σ t r with
  | some p => ⟨t, r, p.1, p.2⟩
  | none => cl0
theorem atC_some {σ : Tab} {t r s v : ByteArray} (h : σ t r = some (s, v)) : atC σ t r = ⟨t, r, s, v⟩ := by unfold atC; rw [h]
theorem atC_none {σ : Tab} {t r : ByteArray} (h : σ t r = none) : atC σ t r = cl0 := by unfold atC; rw [h]
theorem look_run {W : World} {mo : Option Nat} {n : Nat} {σ : Tab} (h0 : mo = none → σ = tab0) (hm : ∀ m, mo = some m → ∃ D, W.ownsMap Tryz.prog 180 cellElem m n D ∧ Reads D σ) {t r : ByteArray} (ht : t.size ≤ 60) (hr : r.size ≤ 60) :
    (Instr.lookup 108 (.map mo) (.agg #[.string t, .string r]) false).run Tryz.prog W = .ok (.agg #[.string (atC σ t r).t, .string (atC σ t r).r, .string (atC σ t r).s, .string (atC σ t r).v]) W := by
  cases mo with
  | none =>
    rw [atC_none (by rw [h0 rfl]; rfl)]
    exact look_nil false law69 Tryz.underlying108 (zero42 W) (key69 t r ht hr)
  | some m =>
    obtain ⟨D, ho, hR⟩ := hm m rfl
    obtain ⟨v, ps, hrun, hv⟩ := ho.lookup law69 Tryz.underlying108 (zero42 W) (cellElem_mk cl0) (key69 t r ht hr)
    rw [hrun]
    cases hx : σ t r with
    | none =>
      rw [(hR.absent ht hr hx).2] at hv
      rw [atC_none hx, cellElem_is hv]
      rfl
    | some p =>
      have e := (hR.there (c := ⟨t, r, p.1, p.2⟩) hx).2 (cellD cl0)
      simp only at e
      rw [e] at hv
      rw [atC_some hx, cellElem_is hv]
      rfl
theorem look_ok_run {W : World} {mo : Option Nat} {n : Nat} {σ : Tab} (h0 : mo = none → σ = tab0) (hm : ∀ m, mo = some m → ∃ D, W.ownsMap Tryz.prog 180 cellElem m n D ∧ Reads D σ) {t r : ByteArray} (ht : t.size ≤ 60) (hr : r.size ≤ 60) :
    (Instr.lookup 108 (.map mo) (.agg #[.string t, .string r]) true).run Tryz.prog W = .ok (.tuple #[.agg #[.string (atC σ t r).t, .string (atC σ t r).r, .string (atC σ t r).s, .string (atC σ t r).v], .bool (σ t r).isSome]) W := by
  cases mo with
  | none =>
    have e : σ t r = none := by rw [h0 rfl]; rfl
    rw [atC_none e, e]
    exact look_nil true law69 Tryz.underlying108 (zero42 W) (key69 t r ht hr)
  | some m =>
    obtain ⟨D, ho, hR⟩ := hm m rfl
    obtain ⟨v, ps, hrun, hv⟩ := ho.look_ok law69 Tryz.underlying108 (zero42 W) (cellElem_mk cl0) (key69 t r ht hr)
    rw [hrun]
    cases hx : σ t r with
    | none =>
      rw [(hR.absent ht hr hx).2] at hv
      rw [atC_none hx, cellElem_is hv, (hR.absent ht hr hx).1]
      rfl
    | some p =>
      have e := hR.there (c := ⟨t, r, p.1, p.2⟩) hx
      simp only at e
      rw [e.2] at hv
      rw [atC_some hx, cellElem_is hv, e.1]
      rfl
theorem atC_own {σ : Tab} {t r s : ByteArray} (hs : 1 ≤ s.size) : ((atC σ t r).s.toList == s.toList) = ownB (σ t r) s := by
  rw [Lib.toList_data, Lib.toList_data]
  cases hx : σ t r with
  | none =>
    rw [atC_none hx, ownB_none]
    have : s.data.toList ≠ [] := fun e => by
      have h1 : s.data.toList.length = s.size := Array.length_toList
      rw [e] at h1
      simp at h1
      omega
    rw [beq_eq_false_iff_ne]
    exact fun e => this e.symm
  | some p =>
    obtain ⟨a, b⟩ := p
    rw [atC_some hx, ownB_some, Bool.eq_iff_iff]
    simp only [beq_iff_eq, decide_eq_true_eq]
    exact ⟨fun h => bytes_eq h, fun h => by rw [h]⟩
theorem field42 (a b c d : ByteArray) (W : World) : (Instr.field 129 (.agg #[.string a, .string b, .string c, .string d]) 2).run Tryz.prog W = .ok (.string c) W := by kernel_rfl
set_option maxRecDepth 100000 in
set_option maxHeartbeats 1000000 in
theorem del_any (b : Nat) (ty : TypeId) (pre : Array Value) (mo : Option Nat) (t r s : ByteArray) (n : Nat) (σ : Tab) (w : World) (ht : t.size ≤ 60) (hr : r.size ≤ 60) (hs : 1 ≤ s.size) (hV : TabV w b ty pre mo n σ) :
    Calls Tryz.prog 120 #[.pointer (some ⟨b, pre.size, none⟩), .agg #[.string t, .string r], .string s] w fun e w' => e = .returned (.tuple #[]) ∧ Upd w w' b ty pre mo mo n (if ownB (σ t r) s = true then delC t r σ else σ) := by
  have c1 : w.cell? ⟨b, pre.size, none⟩ = some (.map mo) := hV.cell
  have hb := hV.row.lt
  have bel : Below w.heap.size w (w.alloc (.cells #[.string t, .string r] 180)) := (Below.refl _ w).alloc (Nat.le_refl _) _
  have hl := look_run (W := (w.alloc (.cells #[.string t, .string r] 180)).drew) (hV.below bel).none (fun m e => (hV.below bel).held m e) ht hr
  have ho := atC_own (σ := σ) (t := t) (r := r) hs
  generalize atC σ t r = x at hl ho
  have hf := field42 x.t x.r x.s x.v
  cases hown : ownB (σ t r) s
  · rw [hown] at ho
    have HV := hide hV
    clear hV hown
    go_enter Tryz.func120, Tryz.ntmps120
    go_wp2
    go_region
    go_wp2
    go_end0
    exact ⟨rfl, HV.out.below bel.drew, .inl rfl, Stirred.of_below bel.drew _⟩
  · rw [hown] at ho
    cases mo with
    | none =>
      rw [hV.none rfl] at hown
      cases hown
    | some m =>
      obtain ⟨D, hm, hR⟩ := hV.held m rfl
      obtain ⟨w1, hrun, ho1, ht1⟩ := (hm.alloc (.cells #[.string t, .string r] 180)).drew.drew.drop law69 Tryz.underlying108 (key69 t r ht hr) 0
      have HR := hide hV.row
      have HA := hide (hV.apart rfl)
      have HO := hide ho1
      have HT := hide ht1
      have Hσ := hide (hR.del (t0 := t) (r0 := r) ht hr)
      clear hV hown hR hm ho1 ht1
      go_enter Tryz.func120, Tryz.ntmps120
      go_wp2
      go_region
      go_wp2
      go_region
      go_end0
      have t0 : Stirred (b :: (some m).toList) w (w.alloc (.cells #[.string t, .string r] 180)).drew.drew := Stirred.of_below ((Below.refl _ w).alloc (Nat.le_refl _) _).drew.drew _
      have t1 := Stirred.of_turned HT.out
      exact ⟨rfl, ⟨(HR.out.alloc _).drew.drew.turned t1 (by simp; exact fun e => HA.out e.symm), (fun e => by cases e), (fun m' e => by cases e; exact ⟨_, HO.out, Hσ.out⟩)⟩,
        .inl rfl, t0.andThen t1 (fun j hj => .inl (by simp at hj; simp [hj]))⟩
end Go.Proofs.YtdjpghgnjcmdnaaGreatDoor

/- All rows of a subject are taken away: the closure that tells them, and the library's DeleteFunc over it. -/
namespace Go.Proofs.YtdjpghgnjcmdnaaGreatDoor
open Go.RowKit Go.Maps
attribute [local go_sem ↓] Go.wp_at_zero Go.wp_at_succ
theorem same_bytes (a b : ByteArray) : (a.toList == b.toList) = decide (a = b) := by
  rw [Lib.toList_data, Lib.toList_data, Bool.eq_iff_iff]
  simp only [beq_iff_eq, decide_eq_true_eq]
  exact ⟨fun h => bytes_eq h, fun h => by rw [h]⟩
set_option maxRecDepth 100000 in
set_option maxHeartbeats 1000000 in
theorem goneFn_any (t r s : ByteArray) (c : Cl) (B : Nat) (W : World) (hB : W.cell? ⟨B, 0, none⟩ = some (.string s)) :
    Calls Tryz.prog 157 #[.agg #[.string t, .string r], .agg #[.string c.t, .string c.r, .string c.s, .string c.v], .pointer (some ⟨B, 0, none⟩)] W fun e w' => e = .returned (.bool (decide (c.s = s))) ∧ W.grownBy w' none := by
  have hlt : B < W.heap.size := block_lt_of_cell hB
  have h2 := same_bytes c.s s
  go_enter Tryz.func157, Tryz.ntmps157
  go_wp2
  go_ret
  exact ⟨ret_val (by simp), (World.grownBy_alloc W _ none).andThen (World.grownBy_alloc _ _ none) (fun j hj => by cases hj)⟩
set_option maxRecDepth 100000 in
set_option maxHeartbeats 4000000 in
theorem deleteFunc_any (b B n : Nat) (s : ByteArray) (D : DataW Unit) (w : World) (hown : w.ownsMap Tryz.prog 180 cellElem b n D) (hB : w.cell? ⟨B, 0, none⟩ = some (.string s)) (hne : B ≠ b) :
    Calls Tryz.prog 156 #[.map (some b), .func (.func 157) #[] #[.pointer (some ⟨B, 0, none⟩)]] w fun e w' => e = .returned (.tuple #[]) ∧ w'.ownsMap Tryz.prog 180 cellElem b n (Lib.deleteFuncD (subjD s) D) ∧ w.grownBy w' (some b) := by
  obtain ⟨es0, rfl, hap, hkeys⟩ := hown.entries law69
  have hBl : B < w.heap.size := block_lt_of_cell hB
  have eg : ∀ args w, (callFunc 157 args).run Tryz.prog w = .ok (.enter 157 args) w := enters_of Tryz.func157 (by kernel_rfl) rfl
  go_enter Tryz.func156, Tryz.ntmps156
  go_wp2_with (first
    | (at_range; refine wpList_range_own _ rfl _ 108 rfl 180 129 law69 Tryz.underlying108 cellElem b n _ rfl hown ?_; intro w0 hrg0 hg0 hs0)
    | go_in)
  go_frame
  go_loopw [8] (fun _ wr => ∃ (left : Lit → Bool) (cnt : Nat), wr.ranges Tryz.prog 180 cellElem b w.heap.size n (Fk (subjD s) es0 left) left cnt ∧ w.grownBy wr (some b))
    (fun _ wr => wr.rangeLeft b w.heap.size)
  case atStart => exact ⟨_, _, by rw [Fk_start hkeys]; exact hrg0, hg0.but _⟩
  case round =>
    obtain ⟨left, cnt, hrg, hgw⟩ := hrel
    go_wp2_with (first
      | (at_next; refine wpList_next_ranges _ rfl _ rfl 180 law69 cellElem (fun p : ByteArray × ByteArray => Value.agg #[.string p.1, .string p.2]) cellV (fun key kl h => key69_inv h) (fun v y h => by obtain ⟨c, hc, _⟩ := cellElem_inv h; exact ⟨c, hc⟩) b w.heap.size n _ _ _ rfl hrg ?_ ?_)
      | go_in)
    · intro _ hl0
      go_wp2
      go_end0
      exact ⟨rfl, by rw [← Fk_end hl0]; exact hrg.owns, hgw⟩
    · intro xt xr c kl yd yp w1 cnt1 hkey hlx hv hat hrg1 hlt hg1 hs1 hen
      obtain ⟨rfl, rfl⟩ : yd = cellD c ∧ yp = [] := by
        rw [cellElem_mk] at hv
        simp only [Option.some.injEq, Prod.mk.injEq] at hv
        exact ⟨hv.1.symm, hv.2.symm⟩
      have hgw1 := hgw.andThen hg1 (fun j hj => by cases hj; exact Or.inl (Nat.le_refl _))
      have hb1 : w1.cell? ⟨B, 0, none⟩ = some (.string s) := hgw1.cell hB (by simpa using hne)
      have hB1 : B < w1.heap.size := block_lt_of_cell hb1
      have hcell : ((w1.alloc (.cells #[.string xt, .string xr] 180)).alloc (.cells #[.string c.t, .string c.r, .string c.s, .string c.v] 129)).cell? ⟨B, 0, none⟩ = some (.string s) :=
        ((World.grownBy_alloc w1 _ none).andThen (World.grownBy_alloc _ _ none) (fun j hj => by cases hj)).cell hb1 (by simp)
      have HC := hide (goneFn_any xt xr s c B _ hcell)
      have hp := subjD_cell s kl c
      have hbl := hrg1.owns.lt
      have hrl := hrg1.lt
      have Hat := hide hat
      have Hgw := hide hgw1
      have Hr1 := hide hrg1
      have Hr := hide hrg
      have hgA : w1.grownBy ((w1.alloc (.cells #[.string xt, .string xr] 180)).alloc (.cells #[.string c.t, .string c.r, .string c.s, .string c.v] 129)) none := (World.grownBy_alloc w1 _ none).andThen (World.grownBy_alloc _ _ none) (fun j hj => by cases hj)
      have HA := hide hgA
      clear hat hgw1 hg1 hgw hg0 hs0 hs1 hcell hB hgA hrg1 hrg
      unfold cellV at hen ⊢
      cases hd : decide (c.s = s) <;> rw [hd] at HC hp
      · go_wp2_with (go_at_fn 157; (with_reducible refine HC.out.mono ?_); rintro e w2 ⟨rfl, hg2⟩)
        have hg3 := HA.out.andThen hg2 (fun j hj => by cases hj)
        have hrg2 := Hr1.out.kept hg3 (by simp) (by simp)
        go_roundw
        case rel => exact ⟨_, cnt1, by rw [← Fk_stays hap (law69.key hkey) hlx hp Hat.out]; exact hrg2, Hgw.out.andThen hg3 (fun j hj => by cases hj)⟩
        case measure => rw [hrg2.left_eq, Hr.out.left_eq]; exact hlt
      · have b0 : ((w1.alloc (.cells #[.string xt, .string xr] 180)).alloc (.cells #[.string c.t, .string c.r, .string c.s, .string c.v] 129)).cell? ⟨w1.heap.size, 0, none⟩ = some (.string xt) := by simp
        have b1 : ((w1.alloc (.cells #[.string xt, .string xr] 180)).alloc (.cells #[.string c.t, .string c.r, .string c.s, .string c.v] 129)).cell? ⟨w1.heap.size, 1, none⟩ = some (.string xr) := by simp
        go_wp2_with (first
          | (go_at_fn 157; (with_reducible refine HC.out.mono ?_); rintro e w2 ⟨rfl, hg2⟩
             have hc0 := hg2.cell b0 (by simp)
             have hc1 := hg2.cell b1 (by simp)
             have hg3 := HA.out.andThen hg2 (fun j hj => by cases hj)
             have hrg2 := Hr1.out.kept hg3 (by simp) (by simp))
          | (at_delete; refine wpList_delete_ranges _ rfl _ _ 108 180 rfl 129 law69 Tryz.underlying108 cellElem b w.heap.size n _ _ _ rfl hrg2 _ _ rfl hkey ?_; intro w3 cnt3 hrg3 hle hturn; go_frame))
        rw [strike_twice] at hrg3
        go_roundw
        case rel => exact ⟨_, cnt3, by rw [← Fk_struck hap (law69.key hkey) hlx hp Hat.out]; exact hrg3, (Hgw.out.andThen hg3 (fun j hj => by cases hj)).andThen hturn.grown (fun j hj => by cases hj; exact Or.inr rfl)⟩
        case measure => rw [hrg3.left_eq, Hr.out.left_eq]; omega
set_option maxRecDepth 100000 in
set_option maxHeartbeats 2000000 in
theorem deleteFunc_nil (fv : Value) (w : World) : Calls Tryz.prog 156 #[.map none, fv] w fun e w' => e = .returned (.tuple #[]) ∧ Below w.heap.size w w' := by
  have hrg := run_range_nilMap (P := Tryz.prog) w 108 _ _ Tryz.underlying108
  have hnx : ∀ ty, (Instr.next (.pointer (some ⟨w.heap.size, 0, none⟩)) false ty).run Tryz.prog (w.alloc (.mapIter none 0 #[] 0)) = _ := fun ty => run_next_nilMap _ ty 0 0 #[]
  go_enter Tryz.func156, Tryz.ntmps156
  go_wp2
  refine wp_loop_rounds 1 ?_
  rw [rounds_succ]
  go_wp2
  go_end0
  exact ⟨rfl, (Below.refl _ w).alloc (Nat.le_refl _) _⟩
set_option maxRecDepth 100000 in
set_option maxHeartbeats 1000000 in
theorem gone_any (b : Nat) (ty : TypeId) (pre : Array Value) (mo : Option Nat) (s : ByteArray) (n : Nat) (σ : Tab) (w : World) (hV : TabV w b ty pre mo n σ) :
    Calls Tryz.prog 121 #[.pointer (some ⟨b, pre.size, none⟩), .string s] w fun e w' => e = .returned (.tuple #[]) ∧ Upd w w' b ty pre mo mo n (goneC s σ) := by
  have c1 : w.cell? ⟨b, pre.size, none⟩ = some (.map mo) := hV.cell
  have hb := hV.row.lt
  have bel : Below w.heap.size w (w.alloc (.cells #[.string s] 9)) := (Below.refl _ w).alloc (Nat.le_refl _) _
  cases mo with
  | none =>
    have HN := hide (deleteFunc_nil (.func (.func 157) #[] #[.pointer (some ⟨w.heap.size, 0, none⟩)]) (w.alloc (.cells #[.string s] 9)))
    have HV := hide hV
    clear hV
    go_enter Tryz.func121, Tryz.ntmps121
    go_wp2_with (go_at_call 156; (with_reducible refine HN.out.mono ?_); rintro e w1 ⟨rfl, hb1⟩)
    go_end0
    have hb2 := bel.trans (hb1.mono (by simp))
    have h1 := HV.out.below hb2
    have e : goneC s σ = σ := by
      rw [h1.none rfl]
      funext t r
      rfl
    rw [e]
    exact ⟨rfl, h1, .inl rfl, Stirred.of_below hb2 _⟩
  | some m =>
    obtain ⟨D, hm, hR⟩ := hV.held m rfl
    have hml := hm.lt
    have HD := hide (deleteFunc_any m w.heap.size n s D (w.alloc (.cells #[.string s] 9)) (hm.alloc _) (by simp) (by omega))
    have HR := hide hV.row
    have HA := hide (hV.apart rfl)
    have Hσ := hide (hR.gone s)
    clear hV hm hR
    go_enter Tryz.func121, Tryz.ntmps121
    go_wp2_with (go_at_call 156; (with_reducible refine HD.out.mono ?_); rintro e w1 ⟨rfl, ho, hg⟩)
    go_end0
    have t0 : Stirred (b :: (some m).toList) w (w.alloc (.cells #[.string s] 9)) := Stirred.of_below bel _
    have t1 := Stirred.of_grown hg
    exact ⟨rfl, ⟨(HR.out.alloc _).turned t1 (by simp; exact fun e => HA.out e.symm), (fun e => by cases e), (fun m' e => by cases e; exact ⟨_, ho, Hσ.out⟩)⟩,
      .inl rfl, t0.andThen t1 (fun j hj => .inl (by simp at hj; simp [hj]))⟩
end Go.Proofs.YtdjpghgnjcmdnaaGreatDoor

/- What several events leave of rows, as mathematics: a Put and a Del, a Gone and all Dels, the last event that has to do with a row. -/
namespace Go.Proofs.YtdjpghgnjcmdnaaGreatDoor
open Go.Sort
/-- Every row's place is named as it may be. -/
def Named (σ : Tab) : Prop := ∀ t r p, σ t r = some p → nameB t.data.toList = true ∧ nameB r.data.toList = true
theorem named0 : Named tab0 := fun t r p h => by cases h
theorem right_row {e : Ev} (h : rightB e = true) (hk : e.k = 1 ∨ e.k = 2) : nameB e.s.data.toList = true ∧ nameB e.t.data.toList = true ∧ nameB e.r.data.toList = true := by
  unfold rightB bodyB rowNB at h
  rcases hk with hk | hk
  · simp only [hk, if_true, Bool.and_eq_true] at h
    exact ⟨h.1, h.2.1.1, h.2.1.2⟩
  · rw [if_neg (by omega), if_pos hk] at h
    simp only [Bool.and_eq_true] at h
    exact ⟨h.1, h.2.1.1, h.2.1.2⟩
theorem right_name {e : Ev} (h : rightB e = true) : nameB e.s.data.toList = true := by
  unfold rightB at h
  simp only [Bool.and_eq_true] at h
  exact h.1
theorem right_del {s t r : ByteArray} (hs : nameB s.data.toList = true) (ht : nameB t.data.toList = true) (hr : nameB r.data.toList = true) : rightB ⟨2, s, t, r, ByteArray.empty⟩ = true := by
  unfold rightB bodyB rowNB
  simp only [hs, ht, hr]
  rfl
theorem Named.act {e : Ev} {σ : Tab} (h : Named σ) (he : rightB e = true) : Named (act e σ) := by
  intro t r p hp
  rcases right_kind he with hk | hk | hk
  · rw [act_put hk] at hp
    split at hp
    · rename_i ha
      obtain ⟨rfl, rfl⟩ := hereB_iff.1 ha
      exact (right_row he (.inl hk)).2
    · exact h t r p hp
  · rw [act_del hk] at hp
    split at hp
    · cases hp
    · exact h t r p hp
  · rw [act_gone (by omega) (by omega)] at hp
    split at hp
    · cases hp
    · exact h t r p hp
theorem Named.app {σ : Tab} (h : Named σ) (e : Ev) : Named (app e σ) := by
  cases he : rightB e
  · rw [app_wrong he]; exact h
  · rw [app_right he]; exact h.act he
theorem Named.runs {σ : Tab} (h : Named σ) : ∀ l : List Ev, Named (runs l σ)
  | [] => h
  | e :: l => Named.runs (h.app e) l
/-- A Put and a Del of its row: what was there but for that row. -/
def without (e : Ev) (σ : Tab) : Tab := fun t r => if hereB t r e = true then none else σ t r
theorem put_del {e f : Ev} (he : rightB e = true) (hf : rightB f = true) (hk : e.k = 1) (hf2 : f.k = 2) (hs : f.s = e.s) (ht : f.t = e.t) (hr : f.r = e.r) (σ : Tab) : app f (app e σ) = without e σ := by
  rw [app_right he, app_right hf]
  funext t r
  have hh : hereB t r f = hereB t r e := by unfold hereB; rw [ht, hr]
  rw [act_del hf2, act_put hk, hh, hs]
  unfold without
  cases hereB t r e <;> simp [ownB]
theorem InOrd.without {σ : Tab} {l : List Cl} (h : InOrd σ l) (e : Ev) : InOrd (without e σ) (l.filter fun c => !hereB c.t c.r e) := by
  refine ⟨h.1.sublist List.filter_sublist, fun c => ?_⟩
  rw [List.mem_filter, h.2]
  unfold YtdjpghgnjcmdnaaGreatDoor.without
  cases hereB c.t c.r e <;> simp
/-- A Gone is all Dels of the subject's rows. -/
def delOf (s : ByteArray) (c : Cl) : Ev := ⟨2, s, c.t, c.r, ByteArray.empty⟩
theorem dels_at (s : ByteArray) : ∀ (cs : List Cl) (σ : Tab), (∀ c ∈ cs, rightB (delOf s c) = true) → ∀ t r, runs (cs.map (delOf s)) σ t r = if (cs.any (fun c => hereB t r (delOf s c)) && ownB (σ t r) s) = true then none else σ t r
  | [], σ, _, t, r => by simp [runs]
  | c :: cs, σ, h, t, r => by
    have hc := h c (by simp)
    rw [List.map_cons, runs_cons, app_right hc, dels_at s cs _ (fun d hd => h d (by simp [hd])) t r, act_del (rfl : (delOf s c).k = 2)]
    have e1 : (delOf s c).s = s := rfl
    rw [e1, List.any_cons]
    generalize hx : σ t r = x
    cases hereB t r (delOf s c) <;> cases cs.any (fun c => hereB t r (delOf s c)) <;> cases hb : ownB x s <;> simp [hb, ownB_none]
theorem gone_dels {e : Ev} {σ : Tab} {cs : List Cl} (he : rightB e = true) (hk : e.k = 3) (hn : Named σ) (ho : InOrd σ cs) : runs (cs.map (delOf e.s)) σ = app e σ := by
  funext t r
  rw [dels_at e.s cs σ (fun c hc => by
    obtain ⟨h1, h2⟩ := hn _ _ _ ((ho.2 c).1 hc)
    exact right_del (right_name he) h1 h2), app_right he, act_gone (by omega) (by omega)]
  cases hx : σ t r with
  | none => simp [ownB_none]
  | some p =>
    have hin : (⟨t, r, p.1, p.2⟩ : Cl) ∈ cs := (ho.2 _).2 hx
    have ha : cs.any (fun c => hereB t r (delOf e.s c)) = true := by
      rw [List.any_eq_true]
      exact ⟨_, hin, by simp [hereB, delOf]⟩
    rw [ha, Bool.true_and]
/-- An event that has to do with a row behind its Put. -/
def laterB (e f : Ev) : Bool := rightB f && ((decide (f.k = 1) && (decide (f.t = e.t) && decide (f.r = e.r))) || (decide (f.s = e.s) && (decide (f.k = 3) || (decide (f.k = 2) && (decide (f.t = e.t) && decide (f.r = e.r))))))
theorem later_none {e : Ev} : ∀ (l : List Ev) (σ : Tab), σ e.t e.r = some (e.s, e.v) → l.any (laterB e) = false → runs l σ e.t e.r = some (e.s, e.v)
  | [], _, h, _ => h
  | f :: l, σ, h, hl => by
    rw [List.any_cons, Bool.or_eq_false_iff] at hl
    rw [runs_cons]
    refine later_none l _ ?_ hl.2
    cases hf : rightB f
    · rw [app_wrong hf]; exact h
    · have h1 := hl.1
      unfold laterB at h1
      rw [hf, Bool.true_and] at h1
      rw [app_right hf]
      rcases right_kind hf with hk | hk | hk
      · rw [act_put hk]
        have : hereB e.t e.r f = false := by
          simp only [hk, decide_true, Bool.true_and, Bool.or_eq_false_iff] at h1
          have h2 := h1.1
          unfold hereB
          rw [← h2]
          congr 1
          · simp [eq_comm]
          · simp [eq_comm]
        rw [this]
        exact h
      · rw [act_del hk, h]
        have : (hereB e.t e.r f && ownB (some (e.s, e.v)) f.s) = false := by
          simp only [hk, decide_true, Bool.true_and, Bool.or_eq_false_iff] at h1
          have h2 := h1.2
          rw [Bool.and_comm, ← h2]
          unfold hereB
          rw [ownB_some]
          simp [eq_comm]
        rw [this]
        simp
      · rw [act_gone (by omega) (by omega), h]
        have : ownB (some (e.s, e.v)) f.s = false := by
          simp only [hk, Bool.or_eq_false_iff] at h1
          have h2 := h1.2
          rw [ownB_some, ← h2]
          simp [eq_comm]
        rw [this]
        simp
/-- None of a subject's rows is there, and none comes. -/
theorem none_comes {s : ByteArray} : ∀ (l : List Ev) (σ : Tab), (∀ t r, ownB (σ t r) s = false) → (∀ f ∈ l, f.k = 1 → f.s ≠ s) → ∀ t r, ownB (runs l σ t r) s = false
  | [], _, h, _, t, r => h t r
  | f :: l, σ, h, hl, t, r => by
    rw [runs_cons]
    refine none_comes l _ (fun t r => ?_) (fun g hg => hl g (by simp [hg])) t r
    cases hf : rightB f
    · rw [app_wrong hf]; exact h t r
    · rw [app_right hf]
      rcases right_kind hf with hk | hk | hk
      · rw [act_put hk]
        split
        · rw [ownB_some]
          exact decide_eq_false (hl f (by simp) hk)
        · exact h t r
      · rw [act_del hk]
        split
        · rfl
        · exact h t r
      · rw [act_gone (by omega) (by omega)]
        split
        · rfl
        · exact h t r
theorem gone_none_comes {s : ByteArray} : ∀ (l : List Ev) (σ : Tab), (∃ g ∈ l, g.k = 3 ∧ g.s = s ∧ rightB g = true) → (∀ f ∈ l, f.k = 1 → f.s ≠ s) → ∀ t r, ownB (runs l σ t r) s = false
  | [], _, h, _, _, _ => by obtain ⟨g, hg, _⟩ := h; simp at hg
  | f :: l, σ, h, hl, t, r => by
    rw [runs_cons]
    by_cases hg : ∃ g ∈ l, g.k = 3 ∧ g.s = s ∧ rightB g = true
    · exact gone_none_comes l _ hg (fun g hg => hl g (by simp [hg])) t r
    · obtain ⟨g, hg1, hk, hs, hr⟩ := h
      rcases List.mem_cons.1 hg1 with rfl | hg1
      · refine none_comes l _ (fun t r => ?_) (fun g hg => hl g (by simp [hg])) t r
        rw [app_right hr, act_gone (by omega) (by omega), hs]
        cases hb : ownB (σ t r) s
        · simp [hb]
        · simp [ownB_none]
      · exact absurd ⟨g, hg1, hk, hs, hr⟩ hg
theorem runs_append (l m : List Ev) (σ : Tab) : runs (l ++ m) σ = runs m (runs l σ) := by unfold runs; rw [List.foldl_append]
/-- THE LAST ONE IS TRUE, of a Put at a place in the list. -/
theorem last_put {l : List Ev} {i : Nat} (hi : i < l.length) (hr : rightB l[i] = true) (hk : l[i].k = 1) (hl : (l.drop (i + 1)).any (laterB l[i]) = false) : runs l tab0 l[i].t l[i].r = some (l[i].s, l[i].v) := by
  have e : l = l.take (i + 1) ++ l.drop (i + 1) := (List.take_append_drop _ _).symm
  have e2 : l.take (i + 1) = l.take i ++ [l[i]] := List.take_succ_eq_append_getElem hi
  have h0 : runs l tab0 = runs (l.drop (i + 1)) (app l[i] (runs (l.take i) tab0)) := by
    rw [← runs_snoc, ← e2, ← runs_append, List.take_append_drop]
  rw [h0]
  refine later_none _ _ ?_ hl
  rw [app_right hr, act_put hk, hereB_self, if_pos rfl]
theorem last_gone {l : List Ev} {i : Nat} (hi : i < l.length) {s : ByteArray} (hg : ∃ g ∈ l.drop (i + 1), g.k = 3 ∧ g.s = s ∧ rightB g = true) (hl : ∀ f ∈ l.drop (i + 1), f.k = 1 → f.s ≠ s) (t r : ByteArray) : ownB (runs l tab0 t r) s = false := by
  have e2 : l.take (i + 1) = l.take i ++ [l[i]] := List.take_succ_eq_append_getElem hi
  have h0 : runs l tab0 = runs (l.drop (i + 1)) (app l[i] (runs (l.take i) tab0)) := by
    rw [← runs_snoc, ← e2, ← runs_append, List.take_append_drop]
  rw [h0]
  exact gone_none_comes _ _ hg hl t r
end Go.Proofs.YtdjpghgnjcmdnaaGreatDoor

/- An event happens to a table; a row is asked for. -/
namespace Go.Proofs.YtdjpghgnjcmdnaaGreatDoor
open Go.RowKit Go.Maps
attribute [local go_sem ↓] Go.wp_at_zero Go.wp_at_succ
/-- An event's cells. -/
def evL (e : Ev) : List Value := [.int .i64 e.k, .string e.s, .string e.t, .string e.r, .string e.v]
/-- An event that is short. -/
structure Brief (e : Ev) : Prop where
  s : e.s.size ≤ 60
  t : e.t.size ≤ 60
  r : e.r.size ≤ 60
  v : e.v.size ≤ 60
/-- What Apply answers. -/
def errOf (e : Ev) : Value := if rightB e = true then .nilIface else .iface 25 (.int .i64 1)
theorem Upd.grow {w w1 w' : World} {b : Nat} {ty : TypeId} {pre : Array Value} {mo mo' : Option Nat} {n m : Nat} {σ : Tab} (hb : Below w.heap.size w w1) (h : Upd w1 w' b ty pre mo mo' n σ) (hn : n ≤ m) : Upd w w' b ty pre mo mo' m σ := by
  obtain ⟨h1, h2, h3⟩ := h
  refine ⟨h1.mono hn, ?_, (Stirred.of_below hb _).andThen h3 (fun j hj => .inl hj)⟩
  rcases h2 with h2 | ⟨e, k, h4, h5⟩
  · exact .inl h2
  · exact .inr ⟨e, k, h4, Nat.le_trans hb.size h5⟩
theorem name_size {s : ByteArray} (h : nameB s.data.toList = true) : 1 ≤ s.size := by
  unfold nameB at h
  have h1 : s.data.toList.length = s.size := Array.length_toList
  rw [h1] at h
  simp only [Bool.and_eq_true, decide_eq_true_eq] at h
  exact h.1.1
theorem ptr_nil (b o : Nat) (w : World) : (binOp .eql 176 (.pointer (some ⟨b, o, none⟩)) (.pointer none)).run Tryz.prog w = .ok (.bool false) w := by kernel_rfl
set_option maxRecDepth 100000 in
set_option maxHeartbeats 2000000 in
theorem apply_any (b : Nat) (ty : TypeId) (pre : Array Value) (mo : Option Nat) (e : Ev) (n : Nat) (σ : Tab) (w : World) (he : Brief e) (hn : n < 1000) (hV : TabV w b ty pre mo n σ) :
    Calls Tryz.prog 79 #[.pointer (some ⟨b, pre.size, none⟩), .agg #[.int .i64 e.k, .string e.s, .string e.t, .string e.r, .string e.v]] w fun x w' => x = .returned (errOf e) ∧ ∃ mo', Upd w w' b ty pre mo mo' (n + 1) (app e σ) := by
  have HR := hide (rightE_any e.k e.s e.t e.r e.v (w.alloc (.cells #[.int .i64 e.k, .string e.s, .string e.t, .string e.r, .string e.v] 69)))
  have bel : Below w.heap.size w (w.alloc (.cells #[.int .i64 e.k, .string e.s, .string e.t, .string e.r, .string e.v] 69)) := (Below.refl _ w).alloc (Nat.le_refl _) _
  have hq := ptr_nil b pre.size
  have c0 : ∀ i v, #[Value.int .i64 e.k, .string e.s, .string e.t, .string e.r, .string e.v][i]? = some v → ∀ w1, Below (w.alloc (.cells #[.int .i64 e.k, .string e.s, .string e.t, .string e.r, .string e.v] 69)).heap.size (w.alloc (.cells #[.int .i64 e.k, .string e.s, .string e.t, .string e.r, .string e.v] 69)) w1 → w1.cell? ⟨w.heap.size, i, none⟩ = some v := by
    intro i v hi w1 hb1
    rw [hb1.cell (p := ⟨w.heap.size, i, none⟩) (by simp), (HasR.new w 69 _).cell i]
    exact hi
  have e5 : (⟨e.k, e.s, e.t, e.r, e.v⟩ : Ev) = e := rfl
  rw [e5] at HR
  unfold errOf
  cases hr : rightB e
  · rw [hr] at HR
    rw [app_wrong hr]
    have HV := hide hV
    clear hV c0 hr e5
    go_enter Tryz.func79, Tryz.ntmps79
    go_wp2_with (go_at_call 112; (with_reducible refine HR.out.mono ?_); rintro x w1 ⟨rfl, hb1⟩)
    go_ret
    have hb2 := bel.trans (hb1.mono (by simp))
    exact ⟨rfl, mo, (HV.out.below hb2).mono (by omega), .inl rfl, Stirred.of_below hb2 _⟩
  · rw [hr] at HR
    rw [app_right hr]
    rcases right_kind hr with hk | hk | hk
    · rw [act_put_is hk]
      have HP := hide (fun w1 (hb1 : Below w.heap.size w w1) => put_any b ty pre mo ⟨e.t, e.r, e.s, e.v⟩ n σ w1 ⟨he.t, he.r, he.s, he.v⟩ hn (hV.below hb1))
      have C0 := hide c0
      clear hV c0 hr e5
      rw [hk] at HR C0 bel ⊢
      go_enter Tryz.func79, Tryz.ntmps79
      go_wp2_with (first
        | (go_at_call 112; (with_reducible refine HR.out.mono ?_); rintro x w1 ⟨rfl, hb1⟩
           have hb2 := bel.trans (hb1.mono (by simp))
           have k0 := C0.out 0 _ rfl w1 hb1
           have k1 := C0.out 1 _ rfl w1 hb1
           have k2 := C0.out 2 _ rfl w1 hb1
           have k3 := C0.out 3 _ rfl w1 hb1
           have k4 := C0.out 4 _ rfl w1 hb1)
        | (go_at_call 119; (with_reducible refine (HP.out _ hb2).mono ?_); rintro x w2 ⟨rfl, mo', hu⟩))
      go_ret
      exact ⟨rfl, mo', hu.grow hb2 (Nat.le_refl _)⟩
    · have HD := hide (fun w1 (hb1 : Below w.heap.size w w1) => del_any b ty pre mo e.t e.r e.s n σ w1 he.t he.r (name_size (right_name hr)) (hV.below hb1))
      have eq : act e σ = if ownB (σ e.t e.r) e.s = true then delC e.t e.r σ else σ := by
        split
        · rename_i h; exact act_del_own hk h
        · rename_i h; exact act_del_other hk (by simpa using h)
      rw [eq]
      generalize (if ownB (σ e.t e.r) e.s = true then delC e.t e.r σ else σ) = τ at HD ⊢
      have C0 := hide c0
      clear hV c0 hr e5 eq
      rw [hk] at HR C0 bel ⊢
      go_enter Tryz.func79, Tryz.ntmps79
      go_wp2_with (first
        | (go_at_call 112; (with_reducible refine HR.out.mono ?_); rintro x w1 ⟨rfl, hb1⟩
           have hb2 := bel.trans (hb1.mono (by simp))
           have k0 := C0.out 0 _ rfl w1 hb1
           have k1 := C0.out 1 _ rfl w1 hb1
           have k2 := C0.out 2 _ rfl w1 hb1
           have k3 := C0.out 3 _ rfl w1 hb1)
        | (go_at_call 120; (with_reducible refine (HD.out _ hb2).mono ?_); rintro x w2 ⟨rfl, hu⟩))
      go_ret
      exact ⟨rfl, mo, hu.grow hb2 (Nat.le_succ _)⟩
    · have HG := hide (fun w1 (hb1 : Below w.heap.size w w1) => gone_any b ty pre mo e.s n σ w1 (hV.below hb1))
      rw [act_gone_is (by omega) (by omega)]
      have C0 := hide c0
      clear hV c0 hr e5
      rw [hk] at HR C0 bel ⊢
      go_enter Tryz.func79, Tryz.ntmps79
      go_wp2_with (first
        | (go_at_call 112; (with_reducible refine HR.out.mono ?_); rintro x w1 ⟨rfl, hb1⟩
           have hb2 := bel.trans (hb1.mono (by simp))
           have k0 := C0.out 0 _ rfl w1 hb1
           have k1 := C0.out 1 _ rfl w1 hb1)
        | (go_at_call 121; (with_reducible refine (HG.out _ hb2).mono ?_); rintro x w2 ⟨rfl, hu⟩))
      go_ret
      exact ⟨rfl, mo, hu.grow hb2 (Nat.le_succ _)⟩
/-- What Get answers. -/
def getV (σ : Tab) (t r : ByteArray) : Value := .tuple #[.agg #[.string (atC σ t r).t, .string (atC σ t r).r, .string (atC σ t r).s, .string (atC σ t r).v], if (σ t r).isSome = true then .nilIface else .iface 25 (.int .i64 7)]
set_option maxRecDepth 100000 in
set_option maxHeartbeats 1000000 in
theorem get_any (b : Nat) (ty : TypeId) (pre : Array Value) (mo : Option Nat) (t r : ByteArray) (n : Nat) (σ : Tab) (w : World) (ht : t.size ≤ 60) (hr : r.size ≤ 60) (hV : TabV w b ty pre mo n σ) :
    Calls Tryz.prog 115 #[.pointer (some ⟨b, pre.size, none⟩), .string t, .string r] w fun x w' => x = .returned (getV σ t r) ∧ Below w.heap.size w w' := by
  have hq := ptr_nil b pre.size
  have c1 : w.cell? ⟨b, pre.size, none⟩ = some (.map mo) := hV.cell
  have hb := hV.row.lt
  have bel : Below w.heap.size w (w.alloc (.cells #[.string ⟨#[]⟩, .string ⟨#[]⟩, .string ⟨#[]⟩, .string ⟨#[]⟩] 129)) := (Below.refl _ w).alloc (Nat.le_refl _) _
  have hl := look_ok_run (W := w.alloc (.cells #[.string ⟨#[]⟩, .string ⟨#[]⟩, .string ⟨#[]⟩, .string ⟨#[]⟩] 129)) (hV.below bel).none (fun m e => (hV.below bel).held m e) ht hr
  unfold getV
  cases hx : σ t r with
  | none =>
    rw [hx] at hl
    have ea := atC_none hx
    rw [ea] at hl ⊢
    simp only [Option.isSome_none] at hl
    clear hV ea hx
    go_enter Tryz.func115, Tryz.ntmps115
    go_wp2
    refine bodyPost_ret (v := .tuple #[.agg #[.string ⟨#[]⟩, .string ⟨#[]⟩, .string ⟨#[]⟩, .string ⟨#[]⟩], .iface 25 (.int .i64 7)]) (by simp [results, Tryz.results115, go_sem]) rfl ⟨rfl, ?_⟩
    exact ((Below.refl _ w).alloc (Nat.le_refl _) _).alloc (by simp) _
  | some p =>
    rw [hx] at hl
    simp only [Option.isSome_some] at hl
    generalize atC σ t r = x at hl ⊢
    clear hV hx
    go_enter Tryz.func115, Tryz.ntmps115
    go_wp2
    refine bodyPost_ret (v := .tuple #[.agg #[.string x.t, .string x.r, .string x.s, .string x.v], .nilIface]) (by simp [results, Tryz.results115, go_sem]) rfl ⟨rfl, ?_⟩
    exact ((Below.refl _ w).alloc (Nat.le_refl _) _).alloc (by simp) _
end Go.Proofs.YtdjpghgnjcmdnaaGreatDoor
