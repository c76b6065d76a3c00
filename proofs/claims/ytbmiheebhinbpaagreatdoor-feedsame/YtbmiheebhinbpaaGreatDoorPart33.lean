/- Texts of this proof, one behind the other. -/
import Derived.Test.YtbmiheebhinbpaaGreatDoorPart32
/- The rows of those who are not forgotten, as mathematics: what a late reader has, and who tells it on. -/
namespace Go.Proofs.YtbmiheebhinbpaaGreatDoor
open Go.RowKit Go.Sort
/-- The rows of those alone that are not forgotten. -/
def keepT (l : List Ev) (τ : Tab) : Tab := fun t r =>
  match τ t r with
  | some p => if lostB l p.1 = true then none else some p
  | none => none
theorem keepT_none {l : List Ev} {τ : Tab} {t r : ByteArray} (h : τ t r = none) : keepT l τ t r = none := by unfold keepT; rw [h]
theorem keepT_some {l : List Ev} {τ : Tab} {t r : ByteArray} {p : ByteArray × ByteArray} (h : τ t r = some p) : keepT l τ t r = if lostB l p.1 = true then none else some p := by unfold keepT; rw [h]
theorem keepT_nil (τ : Tab) : keepT [] τ = τ := by
  funext t r
  cases h : τ t r with
  | none => exact keepT_none h
  | some p => rw [keepT_some h]; rfl
theorem keepT_tab0 (l : List Ev) : keepT l tab0 = tab0 := rfl
theorem lostB_cons (e : Ev) (l : List Ev) (s : ByteArray) : lostB (e :: l) s = ((decide (e.k = 3) && decide (e.s = s)) || lostB l s) := rfl
/-- What a late reader has behind an event that was done. -/
theorem late_step {e : Ev} {l : List Ev} {τ : Tab} (hr : rightB e = true) (h0 : refuseB τ e = 0) :
    keepT l (app e τ) = if e.k ≠ 3 ∧ lostB l e.s = true then keepT (e :: l) τ else app e (keepT (e :: l) τ) := by
  funext t r
  rw [app_right hr, app_right hr]
  rcases right_kind hr with hk | hk | hk
  · have h3 : e.k ≠ 3 := by omega
    have hlc : ∀ s, lostB (e :: l) s = lostB l s := fun s => by rw [lostB_cons]; simp [h3]
    have hown : ∀ p, τ e.t e.r = some p → p.1 = e.s := fun p hp => by
      unfold refuseB at h0
      rw [hp] at h0
      simp only [hk, ownB] at h0
      by_cases hq : p.1 = e.s
      · exact hq
      · simp [hq] at h0
    by_cases hh : hereB t r e = true
    · obtain ⟨rfl, rfl⟩ := hereB_iff.1 hh
      have e1 : act e τ e.t e.r = some (e.s, e.v) := by rw [act_put hk, if_pos hh]
      rw [keepT_some e1]
      by_cases hl : lostB l e.s = true
      · rw [if_pos hl, if_pos ⟨h3, hl⟩]
        cases hx : τ e.t e.r with
        | none => exact (keepT_none hx).symm
        | some p => rw [keepT_some hx, hlc, hown p hx, if_pos hl]
      · rw [if_neg hl, if_neg (fun x => hl x.2), act_put hk, if_pos hh]
    · have e1 : act e τ t r = τ t r := by rw [act_put hk, if_neg hh]
      have e2 : keepT l (act e τ) t r = keepT (e :: l) τ t r := by
        cases hx : τ t r with
        | none => rw [keepT_none (e1.trans hx), keepT_none hx]
        | some p => rw [keepT_some (e1.trans hx), keepT_some hx, hlc]
      rw [e2]
      split
      · rfl
      · rw [act_put hk, if_neg hh]
  · have h3 : e.k ≠ 3 := by omega
    have hlc : ∀ s, lostB (e :: l) s = lostB l s := fun s => by rw [lostB_cons]; simp [h3]
    by_cases hh : (hereB t r e && ownB (τ t r) e.s) = true
    · have e1 : act e τ t r = none := by rw [act_del hk, if_pos hh]
      rw [keepT_none e1]
      simp only [Bool.and_eq_true] at hh
      obtain ⟨h4, h5⟩ := hh
      cases hx : τ t r with
      | none => rw [hx] at h5; cases h5
      | some p =>
        rw [hx] at h5
        have h6 : p.1 = e.s := by simpa [ownB] using h5
        by_cases hl : lostB l e.s = true
        · rw [if_pos ⟨h3, hl⟩, keepT_some hx, hlc, h6, if_pos hl]
        · rw [if_neg (fun x => hl x.2), act_del hk]
          have h7 : keepT (e :: l) τ t r = some p := by rw [keepT_some hx, hlc, h6, if_neg hl]
          rw [h7, h4, h5]
          rfl
    · have e1 : act e τ t r = τ t r := by rw [act_del hk, if_neg hh]
      have e2 : keepT l (act e τ) t r = keepT (e :: l) τ t r := by
        cases hx : τ t r with
        | none => rw [keepT_none (e1.trans hx), keepT_none hx]
        | some p => rw [keepT_some (e1.trans hx), keepT_some hx, hlc]
      rw [e2]
      split
      · rfl
      · rw [act_del hk]
        split
        · rename_i h6
          simp only [Bool.and_eq_true] at h6
          cases hx : τ t r with
          | none => rw [keepT_none hx]
          | some p =>
            have h7 := h6.2
            rw [keepT_some hx] at h7
            split at h7
            · cases h7
            · refine absurd ?_ hh
              rw [hx, h6.1, h7]; rfl
        · rfl
  · rw [if_neg (fun x => x.1 hk), act_gone (by omega) (by omega)]
    cases hx : τ t r with
    | none =>
      have e1 : act e τ t r = none := by rw [act_gone (by omega) (by omega), hx]; rfl
      rw [keepT_none e1, keepT_none hx]; rfl
    | some p =>
      by_cases hp : p.1 = e.s
      · have e1 : act e τ t r = none := by rw [act_gone (by omega) (by omega), hx]; simp [ownB, hp]
        have e2 : keepT (e :: l) τ t r = none := by rw [keepT_some hx, lostB_cons]; simp [hk, hp]
        rw [keepT_none e1, e2]; rfl
      · have e1 : act e τ t r = some p := by rw [act_gone (by omega) (by omega), hx]; simp [ownB, hp]
        have hq : ¬ e.s = p.1 := fun x => hp x.symm
        have e2 : keepT (e :: l) τ t r = if lostB l p.1 = true then none else some p := by rw [keepT_some hx, lostB_cons]; simp [hk, hq]
        rw [keepT_some e1, e2]
        by_cases hl : lostB l p.1 = true
        · simp [hl, ownB]
        · simp [hl, ownB, hp]
/-- Who is not forgotten may do it again where those who are never were. -/
theorem late_free {e : Ev} {l : List Ev} {τ : Tab} (hr : rightB e = true) (h0 : refuseB τ e = 0) (h3 : e.k ≠ 3) (hl : lostB l e.s = false) : refuseB (keepT (e :: l) τ) e = 0 := by
  have hlc : ∀ s, lostB (e :: l) s = lostB l s := fun s => by rw [lostB_cons]; simp [h3]
  unfold refuseB at h0 ⊢
  cases hx : τ e.t e.r with
  | none =>
    rw [keepT_none hx]
    rw [hx] at h0
    exact h0
  | some p =>
    rw [hx] at h0
    rw [keepT_some hx, hlc]
    by_cases hp : p.1 = e.s
    · rw [hp, hl]
      exact h0
    · rcases right_kind hr with hk | hk | hk
      · simp [hk, ownB, hp] at h0
      · simp [hk, ownB, hp] at h0
      · exact absurd hk h3
/-- Of one that is forgotten there is nothing to forget. -/
theorem late_gone {e : Ev} {l : List Ev} {τ : Tab} (hr : rightB e = true) (hk : e.k = 3) : app e (keepT (e :: l) τ) = keepT (e :: l) τ := by
  funext t r
  rw [app_right hr, act_gone (by omega) (by omega)]
  split
  · rename_i h
    cases hx : τ t r with
    | none => rw [keepT_none hx]
    | some p =>
      rw [keepT_some hx] at h ⊢
      by_cases hl : lostB (e :: l) p.1 = true
      · rw [if_pos hl]
      · rw [if_neg hl] at h
        have h6 : p.1 = e.s := by simpa [ownB] using h
        refine absurd ?_ hl
        rw [lostB_cons, h6]
        simp [hk]
  · rfl
end Go.Proofs.YtbmiheebhinbpaaGreatDoor

/- What was done may be done again where those who are forgotten never were: as mathematics. -/
namespace Go.Proofs.YtbmiheebhinbpaaGreatDoor
open Go.RowKit Go.Sort
set_option linter.unusedSectionVars false
variable [Inhabited Cl] [Inhabited Ev]
theorem hist_sub {sec : ByteArray} : ∀ (es : List Ev) (s : Hst), ∀ e ∈ (hist sec es s).ok, e ∈ s.ok ∨ e ∈ es
  | [], s, e, he => .inl he
  | f :: es, s, e, he => by
    rcases hist_sub (sec := sec) es (hstep sec s f) e he with h | h
    · unfold hstep at h
      split at h
      · rcases List.mem_append.1 h with h | h
        · exact .inl h
        · exact .inr (by simp at h; simp [h])
      · exact .inl h
    · exact .inr (by simp [h])
/-- Each event that was done might be, and was not refused. -/
theorem Did.free {sec : ByteArray} {s : Hst} (h : Did sec s) : ∀ k, k < s.ok.length → rightB (s.ok.getD k ev0) = true ∧ refuseB (runs (s.ok.take k) tab0) (s.ok.getD k ev0) = 0 := by
  refine h.ind (P := fun s => ∀ k, k < s.ok.length → rightB (s.ok.getD k ev0) = true ∧ refuseB (runs (s.ok.take k) tab0) (s.ok.getD k ev0) = 0) (fun k hk => by simp [hst0] at hk) ?_
  · intro s e hd ih hdo k hk
    simp only at hk ⊢
    by_cases hk2 : k < s.ok.length
    · have a1 : (s.ok ++ [e]).getD k ev0 = s.ok.getD k ev0 := by simp [List.getD_eq_getElem?_getD, List.getElem?_append_left hk2]
      rw [a1, List.take_append_of_le_length (by omega)]
      exact ih k hk2
    · have hk4 : k = s.ok.length := by simp at hk; omega
      subst hk4
      have a1 : (s.ok ++ [e]).getD s.ok.length ev0 = e := by simp [List.getD_eq_getElem?_getD]
      have a4 : (s.ok ++ [e]).take s.ok.length = s.ok := by simp
      rw [a1, a4, ← hd.tau]
      exact does_parts hdo
theorem drop_cons {es : List Ev} {k : Nat} (h : k < es.length) : es.drop k = es.getD k ev0 :: es.drop (k + 1) := by
  rw [List.drop_eq_getElem_cons h, List.getD_eq_getElem?_getD, List.getElem?_eq_getElem h]
  rfl
theorem take_snoc {es : List Ev} {k : Nat} (h : k < es.length) : es.take (k + 1) = es.take k ++ [es.getD k ev0] := by
  rw [List.take_succ_eq_append_getElem h, List.getD_eq_getElem?_getD, List.getElem?_eq_getElem h]
  rfl
/-- The rows behind k events of those who are not forgotten by the others. -/
def lateT (ok : List Ev) (k : Nat) : Tab := keepT (ok.drop k) (runs (ok.take k) tab0)
theorem lateT_start (ok : List Ev) : lateT ok 0 = tab0 := by
  unfold lateT
  rw [List.take_zero]
  exact keepT_tab0 _
theorem lateT_end (ok : List Ev) : lateT ok ok.length = runs ok tab0 := by
  unfold lateT
  rw [List.drop_length, List.take_length, keepT_nil]
theorem lateT_step {sec : ByteArray} {s : Hst} (h : Did sec s) {k : Nat} (hk : k < s.ok.length) : lateT s.ok (k + 1) = if (s.ok.getD k ev0).k ≠ 3 ∧ lostB (s.ok.drop (k + 1)) (s.ok.getD k ev0).s = true then lateT s.ok k else app (s.ok.getD k ev0) (lateT s.ok k) := by
  obtain ⟨h1, h2⟩ := h.free k hk
  unfold lateT
  rw [take_snoc hk, runs_snoc, late_step h1 h2, ← drop_cons hk]
theorem lateT_gone {sec : ByteArray} {s : Hst} (h : Did sec s) {k : Nat} (hk : k < s.ok.length) (h3 : (s.ok.getD k ev0).k = 3) : lateT s.ok (k + 1) = lateT s.ok k := by
  rw [lateT_step h hk, if_neg (fun x => x.1 h3)]
  unfold lateT
  rw [drop_cons hk]
  exact late_gone (h.free k hk).1 h3
theorem lateT_does {sec : ByteArray} {s : Hst} (h : Did sec s) {k : Nat} (hk : k < s.ok.length) (h3 : (s.ok.getD k ev0).k ≠ 3) (hl : lostB (s.ok.drop (k + 1)) (s.ok.getD k ev0).s = false) (σ : Kept) : doesB σ (lateT s.ok k) (s.ok.getD k ev0) = true := by
  obtain ⟨h1, h2⟩ := h.free k hk
  have h4 : refuseB (lateT s.ok k) (s.ok.getD k ev0) = 0 := by
    unfold lateT
    rw [drop_cons hk]
    exact late_free h1 h2 h3 hl
  generalize s.ok.getD k ev0 = e at h1 h3 h4 ⊢
  unfold doesB
  rw [h1, h4]
  simp [h3]
end Go.Proofs.YtbmiheebhinbpaaGreatDoor

/- Told again it is the same: events one list behind the other; records held against each other in rows; what more is told. -/
namespace Go.Proofs.YtbmiheebhinbpaaGreatDoor
open Go.RowKit Go.Sort Go.Shelf
attribute [local go_sem ↓] Go.wp_at_zero Go.wp_at_succ
set_option linter.unusedSectionVars false
variable [Inhabited Cl] [Inhabited Ev]
theorem evsL_len : ∀ es : List Ev, (evsL es).length = es.length * 5
  | [] => rfl
  | e :: es => by
    have ih := evsL_len es
    have e0 : evsL (e :: es) = evL e ++ evsL es := rfl
    have e5 : (evL e).length = 5 := rfl
    rw [e0, List.length_append, ih, e5, List.length_cons]
    omega
theorem evL_one (e : Ev) (u : Value) (h : u ∈ evL e) : u.oneCell' = true := by
  simp only [evL, List.mem_cons, List.not_mem_nil, or_false] at h
  rcases h with rfl | rfl | rfl | rfl | rfl <;> rfl
theorem evsL_one {es : List Ev} {u : Value} (h : u ∈ evsL es) : u.oneCell' = true := by
  unfold evsL at h
  obtain ⟨e, _, he⟩ := List.mem_flatMap.1 h
  exact evL_one e u he
theorem evsL_app (l m : List Ev) : evsL (l ++ m) = evsL l ++ evsL m := by simp [evsL]
theorem EvRow.news {w : World} {b off : Nat} {es : List Ev} (hx : ∀ j, j < es.length → ∀ i u, (evL es[j]!)[i]? = some u → w.cell? ⟨b, off + j * 5 + i, none⟩ = some u) (j : Nat) (u : Value) (hj : (evsL es)[j]? = some u) : w.cell? ⟨b, off + j, none⟩ = some u := by
  have hl : j < es.length * 5 := by
    have := (List.getElem?_eq_some_iff.1 hj).1
    rw [evsL_len] at this
    exact this
  have h5 : j / 5 < es.length := by omega
  have e1 : j / 5 * 5 + j % 5 = j := by omega
  have h2 := evsL_at es (j / 5) (j % 5) h5 (by omega)
  rw [e1, hj, getD_eq! h5] at h2
  have := hx (j / 5) h5 (j % 5) u h2.symm
  rw [show off + j / 5 * 5 + j % 5 = off + j by omega] at this
  exact this
/-- append(v, ms...): whatever slice the events lie in. -/
theorem app_evs {ops : Array Oper} {rest : List Oper} {o : Oper} {a : Act} {w : World} {Q : Exit → Act → World → Prop} (hgd : o.guard = none) (s x : Operand) (ho : o.op = .call { callee := .builtin .append, args := #[s, x], argTypes := #[22, 22] }) (base : Nat) (v : Value) (n : Nat) (xs : List Value) (hs : a.eval s = v) (hown : w.ownsRow base 35 5 v n xs) (vm : Value) (ms : List Ev) (hx : a.eval x = vm) (hvm : EvRow w vm ms) (h63 : n + ms.length ≤ 100000) (hbase : base ≤ w.heap.size)
    (h : ∀ v' w', w'.ownsRow base 35 5 v' (n + ms.length) (xs ++ evsL ms) → w.grownBy w' v.ownBlock → wpList Tryz.prog ops Q rest (a.put o.dst v') w') : wpList Tryz.prog ops Q (o :: rest) a w := by
  obtain ⟨i0, hi, hz0, hz1, hz2⟩ := info_parts info35
  rcases hvm with ⟨⟨ao, cap, rfl⟩, rfl⟩ | ⟨b, off, cap, rfl, hc, hb, hcells⟩
  · cases ao with
    | none =>
      obtain ⟨p, c, rfl⟩ := ownsRow_slice hown
      have hle : n ≤ c := by
        rcases hown.2 with ⟨e1, e0⟩ | ⟨g, cap', cur, e1, _, _, a1, _⟩
        · omega
        · simp only [Value.slice.injEq] at e1
          rw [e1.2.2]; exact a1
      have hrun : (Builtin.append_ #[22, 22] o.type #[.slice p n c, .slice none 0 cap]).run Tryz.prog w = .ok (.slice p n c) w := by
        cases p <;> simp [Builtin.append_, run_underlying Tryz.underlying22, sizeOf, typeInfo, hi, Builtin.lenOf, Builtin.firstCells, storeCells, hle]
      refine wpList_plain hgd fun K hK => ?_
      unfold Oper.wp execOp
      simp only [ho, resolve, invoke, builtin, Sem.run_bind, Sem.run_pure, Result.andThen_ok, List.map_toArray, List.map_cons, List.map_nil, hs, hx, hrun]
      exact hK _ _ (h _ _ (by simpa [evsL] using hown) ⟨rfl, rfl, rfl, Nat.le_refl _, fun _ _ _ => rfl⟩)
    | some ad =>
      exact wpList_append_own w hgd s x 22 ho base 35 i0 _ 5 72 Tryz.underlying22 hi hz0 hz1 hz2 rfl (by omega) v n xs hs hown ad 0 cap [] hx rfl (fun j u hj => by simp at hj) (fun u hu => by simp at hu) (by unfold maxLen; simp at h63; omega) (by simp at h63; omega) hbase (fun v' w' h1 h2 _ => h v' w' h1 h2)
  · exact wpList_append_own w hgd s x 22 ho base 35 i0 _ 5 72 Tryz.underlying22 hi hz0 hz1 hz2 rfl (by omega) v n xs hs hown ⟨b, off, none⟩ ms.length cap (evsL ms) hx (evsL_len ms) (fun j u hj => by rw [Addr.add_lit]; exact EvRow.news hcells j u hj) (fun u hu => evsL_one hu) (by unfold maxLen; omega) (by omega) hbase (fun v' w' h1 h2 _ => h v' w' h1 h2)
theorem evNil (w : World) (a : Addr) (n c : Nat) : (binOp .eql 22 (.slice (some a) n c) (.slice none 0 0)).run Tryz.prog w = .ok (.bool false) w := by kernel_rfl
theorem evNil2 (w : World) (n c : Nat) : (binOp .eql 22 (.slice none n c) (.slice none 0 0)).run Tryz.prog w = .ok (.bool true) w := by kernel_rfl
set_option maxRecDepth 100000 in
set_option maxHeartbeats 1000000 in
/-- slices.Clone of events. -/
theorem cloneE_any (v : Value) (es : List Ev) (w : World) (hv : EvRow w v es) (hl : es.length ≤ 1000) :
    Calls Tryz.prog 22 #[v] w fun x w' => ∃ u, x = .returned u ∧ w'.ownsRow w.heap.size 35 5 u es.length (evsL es) ∧ Below w.heap.size w w' := by
  have HV := hide hv
  have q1 := evNil w
  have q2 := evNil2 w
  obtain ⟨ao, cap, rfl⟩ := hv.slice
  clear hv
  cases ao with
  | none =>
    have e0 : es = [] := by
      rcases HV.out with ⟨_, h⟩ | ⟨b, off, c, h, _⟩
      · exact h
      · cases h
    subst e0
    go_enter Tryz.func22, Tryz.ntmps22
    go_wp2
    go_ret
    exact ⟨_, rfl, World.ownsRow_nil _ _ _ _, Below.refl _ _⟩
  | some ad =>
    have O0 := hide (World.ownsRow_made (base := w.heap.size) (e := 35) (size := 5) w #[] 0 (Nat.le_refl _) (Nat.zero_le _) (by simp))
    have EV := hide (HV.out.turned ((Below.refl _ w).alloc (Nat.le_refl _) (.cells #[] 35)) (Nat.le_refl _))
    go_enter Tryz.func22, Tryz.ntmps22
    go_wp2_with (
      at_builtin; refine app_evs rfl _ _ rfl w.heap.size (.slice (some ⟨w.heap.size, 0, none⟩) 0 0) 0 [] rfl O0.out (.slice (some ad) es.length cap) es rfl EV.out (by omega) (by simp) ?_; intro u w1 hown hgrow
      rw [Nat.zero_add, List.nil_append] at hown
      have OU := hide hown
      have BU := hide (((Below.refl _ w).alloc (Nat.le_refl _) (.cells #[] 35)).trans ((Stirred.of_grownO hgrow).below (by simp) (fun j hj => (O0.out.lt j (by simpa using hj)).1)))
      clear hown hgrow)
    go_ret
    exact ⟨u, rfl, OU.out, BU.out⟩
/-- What more happens adds to what was told. -/
theorem hist_more {sec : ByteArray} : ∀ (es : List Ev) (s : Hst), ∃ mo mr, (hist sec es s).ok = s.ok ++ mo ∧ (hist sec es s).rs = s.rs ++ mr
  | [], s => ⟨[], [], by simp [hist], by simp [hist]⟩
  | e :: es, s => by
    obtain ⟨mo, mr, h1, h2⟩ := hist_more (sec := sec) es (hstep sec s e)
    have e1 : hist sec (e :: es) s = hist sec es (hstep sec s e) := rfl
    rw [e1, h1, h2]
    unfold hstep
    split
    · exact ⟨e :: mo, tellR sec s.σ s.rs e :: mr, by simp, by simp⟩
    · exact ⟨mo, mr, rfl, rfl⟩
/-- A record's body is as long as what it says, and a mark. -/
theorem RecOf.size {sec : ByteArray} {σ : Kept} {e : Ev} {r : Rec} {lost : Bool} (h : RecOf sec σ e r lost) : r.d.size = (textB e).size + if e.k = 3 then 0 else 16 := by
  by_cases hk : e.k = 3
  · rw [if_pos hk, h.opn hk]; rfl
  · rw [if_neg hk, h.sl hk, sealB_size, Nat.add_comm]
theorem held44 : Tryz.prog.stoodInHeld 44 = false := by kernel_rfl
theorem fields44 : Tryz.prog.underlying 44 = some (.struct (Tryz.prog.fieldsOf 44)) := by kernel_rfl
theorem guard44 : Tryz.prog.eqGuardType Tryz.prog.depth 44 = false := by kernel_rfl
def eqR (x y : Rec) : Bool := decide ((x.q : Int) = (y.q : Int)) && ((x.s.toList == y.s.toList) && (decide ((x.g : Int) = (y.g : Int)) && ((x.p.toList == y.p.toList) && (x.d.toList == y.d.toList))))
theorem eqR_self (x : Rec) : eqR x x = true := by simp [eqR]
set_option maxRecDepth 100000 in
theorem rec_equal (x y : Rec) (w : World) : (Op.equalIn 10000 44 (.agg #[.int .i64 (x.q : Int), .string x.s, .int .i64 (x.g : Int), .string x.p, .string x.d]) (.agg #[.int .i64 (y.q : Int), .string y.s, .int .i64 (y.g : Int), .string y.p, .string y.d])).run Tryz.prog w = .ok (eqR x y) w := by
  rw [show (10000 : Nat) = 9999 + 1 from rfl, run_equalIn_agg w 9999 44 _ _ fields44 held44]
  simp only [Program.fieldsOf, Tryz.underlying44]
  unfold eqR
  go_simp
  by_cases h1 : (x.q : Int) = (y.q : Int) <;> by_cases h2 : x.s.toList = y.s.toList <;> by_cases h3 : (x.g : Int) = (y.g : Int) <;> by_cases h4 : x.p.toList = y.p.toList <;> by_cases h5 : x.d.toList = y.d.toList <;> simp [h1, h2, h3, h4, h5]
set_option maxRecDepth 100000 in
theorem rec_neq (x y : Rec) (w : World) : (binOp .neq 44 (.agg #[.int .i64 (x.q : Int), .string x.s, .int .i64 (x.g : Int), .string x.p, .string x.d]) (.agg #[.int .i64 (y.q : Int), .string y.s, .int .i64 (y.g : Int), .string y.p, .string y.d])).run Tryz.prog w = .ok (.bool (!eqR x y)) w := by
  rw [run_neq_struct, rec_equal]; rfl
def laysEqualR_ren : Go.Shelf.Ren := ⟨fun | 8 => 23 | n => n, fun | 22 => 29 | 24 => 44 | 4 => 4 | 3 => 3 | 0 => 0 | n => n, fun | n => n⟩
theorem laysEqualR : Go.Proofs.SlLaysQ.n8 Tryz.prog laysEqualR_ren := {
  mixed := by kernel_rfl
  f8 := ⟨Tryz.f23.name, by decide, Tryz.func23.trans (congrArg some (by kernel_rfl))⟩
  t0 := Tryz.underlying0
  a0 := Tryz.isAgg0
  z0 := Tryz.sizeOf0
  v0 := Tryz.zeroValue0
  t3 := Tryz.underlying3
  a3 := Tryz.isAgg3
  z3 := Tryz.sizeOf3
  v3 := Tryz.zeroValue3
  t4 := Tryz.underlying4
  a4 := Tryz.isAgg4
  z4 := Tryz.sizeOf4
  v4 := Tryz.zeroValue4
  t22 := Tryz.underlying29
  a22 := Tryz.isAgg29
  z22 := Tryz.sizeOf29
  v22 := Tryz.zeroValue29 }
set_option maxRecDepth 100000 in
theorem neqAtR : NeqAt Tryz.prog 44 (fun x => .agg (recL x).toArray) eqR := ⟨fun x y w => rec_neq x y w, GuardAt.agg _ guard44⟩
theorem isAgg44R (w : World) : (isAgg 44).run Tryz.prog w = .ok true w := by kernel_rfl
theorem sizeOf44R (w : World) : (Go.sizeOf 44).run Tryz.prog w = .ok 5 w := by kernel_rfl
theorem allEqR_self : ∀ rs : List Rec, Lib.allEq eqR rs rs = true
  | [] => rfl
  | r :: rs => by
    unfold Lib.allEq
    rw [eqR_self, allEqR_self rs]
    rfl
set_option maxRecDepth 100000 in
set_option maxHeartbeats 1000000 in
theorem equalNoneR (p q : Option Addr) (c d : Nat) (w : World) : Calls Tryz.prog 23 #[.slice p 0 c, .slice q 0 d] w fun e w' => e = .returned (.bool true) ∧ w' = w := by
  go_enter Tryz.func23, Tryz.ntmps23
  go_wp2
  refine wp_loop_rounds 1 ?_
  rw [rounds_succ]
  go_wp2
  go_ret
  exact ⟨rfl, rfl⟩
theorem recs_bang {rs : List Rec} {k : Nat} [Inhabited Rec] (h : k < rs.length) : rs.getD k recZ = rs[k]! := by
  rw [getElem!_pos rs k h, List.getD_eq_getElem?_getD, List.getElem?_eq_getElem h]
  rfl
/-- slices.Equal of records, and of the beginning of more. -/
theorem equalR_any (p pg : Option Addr) (c cg n m : Nat) (rs mr : List Rec) (b1 b2 : Nat) (w : World) (hn : rs.length = n) (h1 : w.ownsRow b1 44 5 (.slice p n c) n (recsL rs)) (h2 : w.ownsRow b2 44 5 (.slice pg m cg) m (recsL (rs ++ mr))) (hl : n ≤ 1000) :
    Calls Tryz.prog 23 #[.slice p n c, .slice pg n cg] w fun e w' => e = .returned (.bool true) ∧ Below w.heap.size w w' := by
  subst hn
  by_cases h0 : rs.length = 0
  · rw [h0]
    exact (equalNoneR p pg c cg w).mono fun e w' ⟨he, hw⟩ => ⟨he, by rw [hw]; exact Below.refl _ _⟩
  · letI : Inhabited Rec := ⟨recZ⟩
    have hm : m = (rs ++ mr).length := by
      have := h2.1
      rw [recsL_len] at this
      omega
    subst hm
    obtain ⟨g1, rfl, _⟩ := block_of h1 (by omega)
    obtain ⟨g2, rfl, _⟩ := block_of h2 (by rw [List.length_append]; omega)
    have c1 : ∀ j, j < rs.length → ∀ i v, (recL rs[j]!)[i]? = some v → w.cell? ⟨g1, 0 + j * 5 + i, none⟩ = some v := fun j hj i v hi => by
      have hi5 : i < 5 := (List.getElem?_eq_some_iff.1 hi).1
      rw [Nat.zero_add, h1.cellAt (j * 5 + i) (by omega), recsL_at rs j i hj hi5, recs_bang hj]
      exact hi
    have c2 : ∀ j, j < rs.length → ∀ i v, (recL rs[j]!)[i]? = some v → w.cell? ⟨g2, 0 + j * 5 + i, none⟩ = some v := fun j hj i v hi => by
      have hi5 : i < 5 := (List.getElem?_eq_some_iff.1 hi).1
      have hj2 : j < (rs ++ mr).length := by rw [List.length_append]; omega
      rw [Nat.zero_add, h2.cellAt (j * 5 + i) (by omega), recsL_at (rs ++ mr) j i hj2 hi5]
      have e1 : (rs ++ mr).getD j recZ = rs.getD j recZ := by simp [List.getD_eq_getElem?_getD, List.getElem?_append_left hj]
      rw [e1, recs_bang hj]
      exact hi
    have h := AnyQ.slices_Equal (ρ := laysEqualR_ren) laysEqualR 5 isAgg44R sizeOf44R recL (fun _ => rfl) eqR neqAtR g1 0 rs.length c g2 0 rs.length cg rs rs w (Nat.le_refl _) (Nat.le_refl _) (by omega) (by omega) c1 c2
    rw [List.take_length, allEqR_self] at h
    refine h.mono ?_
    rintro e w' ⟨rfl, q, rfl⟩
    exact ⟨rfl, below_dn (Below.refl _ _) _⟩
end Go.Proofs.YtbmiheebhinbpaaGreatDoor
