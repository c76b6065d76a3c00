/- Texts of this proof, one behind the other. -/
import Derived.Deep.RegionHeld3
import Derived.Deep.DrawnRows
import Derived.Deep.QuietTactic
import Derived.BigQuiet
import Derived.Test.YtkbaalenbpgheaaGreatDoorPart11
/- What several events leave of rows, as mathematics: a Put and a Del, a Gone and all Dels, the last event that has to do with a row. -/
namespace Go.Proofs.YtkbaalenbpgheaaGreatDoor
open Go.Sort
/-- Every row's place is named as it may be. -/
def Named (σ : Tab) : Prop := ∀ t r p, σ t r = some p → nameB t.data.toList = true ∧ nameB r.data.toList = true
theorem named0 : Named tab0 := fun t r p h => by cases h
theorem right_row {e : Ev} (h : rightB e = true) (hk : e.k = 1 ∨ e.k = 2) : nameB e.s.data.toList = true ∧ nameB e.t.data.toList = true ∧ nameB e.r.data.toList = true := by
  unfold rightB bodyB rowNB at h
  rcases hk with hk | hk
  · simp only [hk, if_true, Bool.and_eq_true] at h
    exact ⟨h.1, h.2.1.1, h.2.1.2⟩
  · rw [if_neg (by omega), if_pos hk] at h
    simp only [Bool.and_eq_true] at h
    exact ⟨h.1, h.2.1.1, h.2.1.2⟩
theorem right_name {e : Ev} (h : rightB e = true) : nameB e.s.data.toList = true := by
  unfold rightB at h
  simp only [Bool.and_eq_true] at h
  exact h.1
theorem right_del {s t r : ByteArray} (hs : nameB s.data.toList = true) (ht : nameB t.data.toList = true) (hr : nameB r.data.toList = true) : rightB ⟨2, s, t, r, ByteArray.empty⟩ = true := by
  unfold rightB bodyB rowNB
  simp only [hs, ht, hr]
  rfl
theorem Named.act {e : Ev} {σ : Tab} (h : Named σ) (he : rightB e = true) : Named (act e σ) := by
  intro t r p hp
  rcases right_kind he with hk | hk | hk
  · rw [act_put hk] at hp
    split at hp
    · rename_i ha
      obtain ⟨rfl, rfl⟩ := hereB_iff.1 ha
      exact (right_row he (.inl hk)).2
    · exact h t r p hp
  · rw [act_del hk] at hp
    split at hp
    · cases hp
    · exact h t r p hp
  · rw [act_gone (by omega) (by omega)] at hp
    split at hp
    · cases hp
    · exact h t r p hp
theorem Named.app {σ : Tab} (h : Named σ) (e : Ev) : Named (app e σ) := by
  cases he : rightB e
  · rw [app_wrong he]; exact h
  · rw [app_right he]; exact h.act he
theorem Named.runs {σ : Tab} (h : Named σ) : ∀ l : List Ev, Named (runs l σ)
  | [] => h
  | e :: l => Named.runs (h.app e) l
/-- A Put and a Del of its row: what was there but for that row. -/
def without (e : Ev) (σ : Tab) : Tab := fun t r => if hereB t r e = true then none else σ t r
theorem put_del {e f : Ev} (he : rightB e = true) (hf : rightB f = true) (hk : e.k = 1) (hf2 : f.k = 2) (hs : f.s = e.s) (ht : f.t = e.t) (hr : f.r = e.r) (σ : Tab) : app f (app e σ) = without e σ := by
  rw [app_right he, app_right hf]
  funext t r
  have hh : hereB t r f = hereB t r e := by unfold hereB; rw [ht, hr]
  rw [act_del hf2, act_put hk, hh, hs]
  unfold without
  cases hereB t r e <;> simp [ownB]
theorem InOrd.without {σ : Tab} {l : List Cl} (h : InOrd σ l) (e : Ev) : InOrd (without e σ) (l.filter fun c => !hereB c.t c.r e) := by
  refine ⟨h.1.sublist List.filter_sublist, fun c => ?_⟩
  rw [List.mem_filter, h.2]
  unfold YtkbaalenbpgheaaGreatDoor.without
  cases hereB c.t c.r e <;> simp
/-- A Gone is all Dels of the subject's rows. -/
def delOf (s : ByteArray) (c : Cl) : Ev := ⟨2, s, c.t, c.r, ByteArray.empty⟩
theorem dels_at (s : ByteArray) : ∀ (cs : List Cl) (σ : Tab), (∀ c ∈ cs, rightB (delOf s c) = true) → ∀ t r, runs (cs.map (delOf s)) σ t r = if (cs.any (fun c => hereB t r (delOf s c)) && ownB (σ t r) s) = true then none else σ t r
  | [], σ, _, t, r => by simp [runs]
  | c :: cs, σ, h, t, r => by
    have hc := h c (by simp)
    rw [List.map_cons, runs_cons, app_right hc, dels_at s cs _ (fun d hd => h d (by simp [hd])) t r, act_del (rfl : (delOf s c).k = 2)]
    have e1 : (delOf s c).s = s := rfl
    rw [e1, List.any_cons]
    generalize hx : σ t r = x
    cases hereB t r (delOf s c) <;> cases cs.any (fun c => hereB t r (delOf s c)) <;> cases hb : ownB x s <;> simp [hb, ownB_none]
theorem gone_dels {e : Ev} {σ : Tab} {cs : List Cl} (he : rightB e = true) (hk : e.k = 3) (hn : Named σ) (ho : InOrd σ cs) : runs (cs.map (delOf e.s)) σ = app e σ := by
  funext t r
  rw [dels_at e.s cs σ (fun c hc => by
    obtain ⟨h1, h2⟩ := hn _ _ _ ((ho.2 c).1 hc)
    exact right_del (right_name he) h1 h2), app_right he, act_gone (by omega) (by omega)]
  cases hx : σ t r with
  | none => simp [ownB_none]
  | some p =>
    have hin : (⟨t, r, p.1, p.2⟩ : Cl) ∈ cs := (ho.2 _).2 hx
    have ha : cs.any (fun c => hereB t r (delOf e.s c)) = true := by
      rw [List.any_eq_true]
      exact ⟨_, hin, by simp [hereB, delOf]⟩
    rw [ha, Bool.true_and]
/-- An event that has to do with a row behind its Put. -/
def laterB (e f : Ev) : Bool := rightB f && ((decide (f.k = 1) && (decide (f.t = e.t) && decide (f.r = e.r))) || (decide (f.s = e.s) && (decide (f.k = 3) || (decide (f.k = 2) && (decide (f.t = e.t) && decide (f.r = e.r))))))
theorem later_none {e : Ev} : ∀ (l : List Ev) (σ : Tab), σ e.t e.r = some (e.s, e.v) → l.any (laterB e) = false → runs l σ e.t e.r = some (e.s, e.v)
  | [], _, h, _ => h
  | f :: l, σ, h, hl => by
    rw [List.any_cons, Bool.or_eq_false_iff] at hl
    rw [runs_cons]
    refine later_none l _ ?_ hl.2
    cases hf : rightB f
    · rw [app_wrong hf]; exact h
    · have h1 := hl.1
      unfold laterB at h1
      rw [hf, Bool.true_and] at h1
      rw [app_right hf]
      rcases right_kind hf with hk | hk | hk
      · rw [act_put hk]
        have : hereB e.t e.r f = false := by
          simp only [hk, decide_true, Bool.true_and, Bool.or_eq_false_iff] at h1
          have h2 := h1.1
          unfold hereB
          rw [← h2]
          congr 1
          · simp [eq_comm]
          · simp [eq_comm]
        rw [this]
        exact h
      · rw [act_del hk, h]
        have : (hereB e.t e.r f && ownB (some (e.s, e.v)) f.s) = false := by
          simp only [hk, decide_true, Bool.true_and, Bool.or_eq_false_iff] at h1
          have h2 := h1.2
          rw [Bool.and_comm, ← h2]
          unfold hereB
          rw [ownB_some]
          simp [eq_comm]
        rw [this]
        simp
      · rw [act_gone (by omega) (by omega), h]
        have : ownB (some (e.s, e.v)) f.s = false := by
          simp only [hk, Bool.or_eq_false_iff] at h1
          have h2 := h1.2
          rw [ownB_some, ← h2]
          simp [eq_comm]
        rw [this]
        simp
/-- None of a subject's rows is there, and none comes. -/
theorem none_comes {s : ByteArray} : ∀ (l : List Ev) (σ : Tab), (∀ t r, ownB (σ t r) s = false) → (∀ f ∈ l, f.k = 1 → f.s ≠ s) → ∀ t r, ownB (runs l σ t r) s = false
  | [], _, h, _, t, r => h t r
  | f :: l, σ, h, hl, t, r => by
    rw [runs_cons]
    refine none_comes l _ (fun t r => ?_) (fun g hg => hl g (by simp [hg])) t r
    cases hf : rightB f
    · rw [app_wrong hf]; exact h t r
    · rw [app_right hf]
      rcases right_kind hf with hk | hk | hk
      · rw [act_put hk]
        split
        · rw [ownB_some]
          exact decide_eq_false (hl f (by simp) hk)
        · exact h t r
      · rw [act_del hk]
        split
        · rfl
        · exact h t r
      · rw [act_gone (by omega) (by omega)]
        split
        · rfl
        · exact h t r
theorem gone_none_comes {s : ByteArray} : ∀ (l : List Ev) (σ : Tab), (∃ g ∈ l, g.k = 3 ∧ g.s = s ∧ rightB g = true) → (∀ f ∈ l, f.k = 1 → f.s ≠ s) → ∀ t r, ownB (runs l σ t r) s = false
  | [], _, h, _, _, _ => by obtain ⟨g, hg, _⟩ := h; simp at hg
  | f :: l, σ, h, hl, t, r => by
    rw [runs_cons]
    by_cases hg : ∃ g ∈ l, g.k = 3 ∧ g.s = s ∧ rightB g = true
    · exact gone_none_comes l _ hg (fun g hg => hl g (by simp [hg])) t r
    · obtain ⟨g, hg1, hk, hs, hr⟩ := h
      rcases List.mem_cons.1 hg1 with rfl | hg1
      · refine none_comes l _ (fun t r => ?_) (fun g hg => hl g (by simp [hg])) t r
        rw [app_right hr, act_gone (by omega) (by omega), hs]
        cases hb : ownB (σ t r) s
        · simp [hb]
        · simp [ownB_none]
      · exact absurd ⟨g, hg1, hk, hs, hr⟩ hg
theorem runs_append (l m : List Ev) (σ : Tab) : runs (l ++ m) σ = runs m (runs l σ) := by unfold runs; rw [List.foldl_append]
/-- THE LAST ONE IS TRUE, of a Put at a place in the list. -/
theorem last_put {l : List Ev} {i : Nat} (hi : i < l.length) (hr : rightB l[i] = true) (hk : l[i].k = 1) (hl : (l.drop (i + 1)).any (laterB l[i]) = false) : runs l tab0 l[i].t l[i].r = some (l[i].s, l[i].v) := by
  have e : l = l.take (i + 1) ++ l.drop (i + 1) := (List.take_append_drop _ _).symm
  have e2 : l.take (i + 1) = l.take i ++ [l[i]] := List.take_succ_eq_append_getElem hi
  have h0 : runs l tab0 = runs (l.drop (i + 1)) (app l[i] (runs (l.take i) tab0)) := by
    rw [← runs_snoc, ← e2, ← runs_append, List.take_append_drop]
  rw [h0]
  refine later_none _ _ ?_ hl
  rw [app_right hr, act_put hk, hereB_self, if_pos rfl]
theorem last_gone {l : List Ev} {i : Nat} (hi : i < l.length) {s : ByteArray} (hg : ∃ g ∈ l.drop (i + 1), g.k = 3 ∧ g.s = s ∧ rightB g = true) (hl : ∀ f ∈ l.drop (i + 1), f.k = 1 → f.s ≠ s) (t r : ByteArray) : ownB (runs l tab0 t r) s = false := by
  have e2 : l.take (i + 1) = l.take i ++ [l[i]] := List.take_succ_eq_append_getElem hi
  have h0 : runs l tab0 = runs (l.drop (i + 1)) (app l[i] (runs (l.take i) tab0)) := by
    rw [← runs_snoc, ← e2, ← runs_append, List.take_append_drop]
  rw [h0]
  exact gone_none_comes _ _ hg hl t r
end Go.Proofs.YtkbaalenbpgheaaGreatDoor

/- An event happens to a table; a row is asked for. -/
namespace Go.Proofs.YtkbaalenbpgheaaGreatDoor
open Go.RowKit Go.Maps
attribute [local go_sem ↓] Go.wp_at_zero Go.wp_at_succ
/-- An event's cells. -/
def evL (e : Ev) : List Value := [.int .i64 e.k, .string e.s, .string e.t, .string e.r, .string e.v]
/-- An event that is short. -/
structure Brief (e : Ev) : Prop where
  s : e.s.size ≤ 60
  t : e.t.size ≤ 60
  r : e.r.size ≤ 60
  v : e.v.size ≤ 60
/-- What Apply answers. -/
def errOf (e : Ev) : Value := if rightB e = true then .nilIface else .iface 56 (.int .i64 1)
theorem Upd.grow {w w1 w' : World} {b : Nat} {ty : TypeId} {pre : Array Value} {mo mo' : Option Nat} {n m : Nat} {σ : Tab} (hb : Below w.heap.size w w1) (h : Upd w1 w' b ty pre mo mo' n σ) (hn : n ≤ m) : Upd w w' b ty pre mo mo' m σ := by
  obtain ⟨h1, h2, h3⟩ := h
  refine ⟨h1.mono hn, ?_, (Stirred.of_below hb _).andThen h3 (fun j hj => .inl hj)⟩
  rcases h2 with h2 | ⟨e, k, h4, h5⟩
  · exact .inl h2
  · exact .inr ⟨e, k, h4, Nat.le_trans hb.size h5⟩
theorem name_size {s : ByteArray} (h : nameB s.data.toList = true) : 1 ≤ s.size := by
  unfold nameB at h
  have h1 : s.data.toList.length = s.size := Array.length_toList
  rw [h1] at h
  simp only [Bool.and_eq_true, decide_eq_true_eq] at h
  exact h.1.1
theorem ptr_nil (b o : Nat) (w : World) : (binOp .eql 129 (.pointer (some ⟨b, o, none⟩)) (.pointer none)).run Tryz.prog w = .ok (.bool false) w := by kernel_rfl
set_option maxRecDepth 100000 in
set_option maxHeartbeats 2000000 in
theorem apply_any (b : Nat) (ty : TypeId) (pre : Array Value) (mo : Option Nat) (e : Ev) (n : Nat) (σ : Tab) (w : World) (he : Brief e) (hn : n < 1000) (hV : TabV w b ty pre mo n σ) :
    Calls Tryz.prog 44 #[.pointer (some ⟨b, pre.size, none⟩), .agg #[.int .i64 e.k, .string e.s, .string e.t, .string e.r, .string e.v]] w fun x w' => x = .returned (errOf e) ∧ ∃ mo', Upd w w' b ty pre mo mo' (n + 1) (app e σ) := by
  have HR := hide (rightE_any e.k e.s e.t e.r e.v (w.alloc (.cells #[.int .i64 e.k, .string e.s, .string e.t, .string e.r, .string e.v] 36)))
  have bel : Below w.heap.size w (w.alloc (.cells #[.int .i64 e.k, .string e.s, .string e.t, .string e.r, .string e.v] 36)) := (Below.refl _ w).alloc (Nat.le_refl _) _
  have hq := ptr_nil b pre.size
  have c0 : ∀ i v, #[Value.int .i64 e.k, .string e.s, .string e.t, .string e.r, .string e.v][i]? = some v → ∀ w1, Below (w.alloc (.cells #[.int .i64 e.k, .string e.s, .string e.t, .string e.r, .string e.v] 36)).heap.size (w.alloc (.cells #[.int .i64 e.k, .string e.s, .string e.t, .string e.r, .string e.v] 36)) w1 → w1.cell? ⟨w.heap.size, i, none⟩ = some v := by
    intro i v hi w1 hb1
    rw [hb1.cell (p := ⟨w.heap.size, i, none⟩) (by simp), (HasR.new w 36 _).cell i]
    exact hi
  have e5 : (⟨e.k, e.s, e.t, e.r, e.v⟩ : Ev) = e := rfl
  rw [e5] at HR
  unfold errOf
  cases hr : rightB e
  · rw [hr] at HR
    rw [app_wrong hr]
    have HV := hide hV
    clear hV c0 hr e5
    go_enter Tryz.func44, Tryz.ntmps44
    go_wp2_with (go_at_call 72; (with_reducible refine HR.out.mono ?_); rintro x w1 ⟨rfl, hb1⟩)
    go_ret
    have hb2 := bel.trans (hb1.mono (by simp))
    exact ⟨rfl, mo, (HV.out.below hb2).mono (by omega), .inl rfl, Stirred.of_below hb2 _⟩
  · rw [hr] at HR
    rw [app_right hr]
    rcases right_kind hr with hk | hk | hk
    · rw [act_put_is hk]
      have HP := hide (fun w1 (hb1 : Below w.heap.size w w1) => put_any b ty pre mo ⟨e.t, e.r, e.s, e.v⟩ n σ w1 ⟨he.t, he.r, he.s, he.v⟩ hn (hV.below hb1))
      have C0 := hide c0
      clear hV c0 hr e5
      rw [hk] at HR C0 bel ⊢
      go_enter Tryz.func44, Tryz.ntmps44
      go_wp2_with (first
        | (go_at_call 72; (with_reducible refine HR.out.mono ?_); rintro x w1 ⟨rfl, hb1⟩
           have hb2 := bel.trans (hb1.mono (by simp))
           have k0 := C0.out 0 _ rfl w1 hb1
           have k1 := C0.out 1 _ rfl w1 hb1
           have k2 := C0.out 2 _ rfl w1 hb1
           have k3 := C0.out 3 _ rfl w1 hb1
           have k4 := C0.out 4 _ rfl w1 hb1)
        | (go_at_call 73; (with_reducible refine (HP.out _ hb2).mono ?_); rintro x w2 ⟨rfl, mo', hu⟩))
      go_ret
      exact ⟨rfl, mo', hu.grow hb2 (Nat.le_refl _)⟩
    · have HD := hide (fun w1 (hb1 : Below w.heap.size w w1) => del_any b ty pre mo e.t e.r e.s n σ w1 he.t he.r (name_size (right_name hr)) (hV.below hb1))
      have eq : act e σ = if ownB (σ e.t e.r) e.s = true then delC e.t e.r σ else σ := by
        split
        · rename_i h; exact act_del_own hk h
        · rename_i h; exact act_del_other hk (by simpa using h)
      rw [eq]
      generalize (if ownB (σ e.t e.r) e.s = true then delC e.t e.r σ else σ) = τ at HD ⊢
      have C0 := hide c0
      clear hV c0 hr e5 eq
      rw [hk] at HR C0 bel ⊢
      go_enter Tryz.func44, Tryz.ntmps44
      go_wp2_with (first
        | (go_at_call 72; (with_reducible refine HR.out.mono ?_); rintro x w1 ⟨rfl, hb1⟩
           have hb2 := bel.trans (hb1.mono (by simp))
           have k0 := C0.out 0 _ rfl w1 hb1
           have k1 := C0.out 1 _ rfl w1 hb1
           have k2 := C0.out 2 _ rfl w1 hb1
           have k3 := C0.out 3 _ rfl w1 hb1)
        | (go_at_call 74; (with_reducible refine (HD.out _ hb2).mono ?_); rintro x w2 ⟨rfl, hu⟩))
      go_ret
      exact ⟨rfl, mo, hu.grow hb2 (Nat.le_succ _)⟩
    · have HG := hide (fun w1 (hb1 : Below w.heap.size w w1) => gone_any b ty pre mo e.s n σ w1 (hV.below hb1))
      rw [act_gone_is (by omega) (by omega)]
      have C0 := hide c0
      clear hV c0 hr e5
      rw [hk] at HR C0 bel ⊢
      go_enter Tryz.func44, Tryz.ntmps44
      go_wp2_with (first
        | (go_at_call 72; (with_reducible refine HR.out.mono ?_); rintro x w1 ⟨rfl, hb1⟩
           have hb2 := bel.trans (hb1.mono (by simp))
           have k0 := C0.out 0 _ rfl w1 hb1
           have k1 := C0.out 1 _ rfl w1 hb1)
        | (go_at_call 75; (with_reducible refine (HG.out _ hb2).mono ?_); rintro x w2 ⟨rfl, hu⟩))
      go_ret
      exact ⟨rfl, mo, hu.grow hb2 (Nat.le_succ _)⟩
/-- What Get answers. -/
def getV (σ : Tab) (t r : ByteArray) : Value := .tuple #[.agg #[.string (atC σ t r).t, .string (atC σ t r).r, .string (atC σ t r).s, .string (atC σ t r).v], if (σ t r).isSome = true then .nilIface else .iface 56 (.int .i64 7)]
set_option maxRecDepth 100000 in
set_option maxHeartbeats 1000000 in
theorem get_any (b : Nat) (ty : TypeId) (pre : Array Value) (mo : Option Nat) (t r : ByteArray) (n : Nat) (σ : Tab) (w : World) (ht : t.size ≤ 60) (hr : r.size ≤ 60) (hV : TabV w b ty pre mo n σ) :
    Calls Tryz.prog 45 #[.pointer (some ⟨b, pre.size, none⟩), .string t, .string r] w fun x w' => x = .returned (getV σ t r) ∧ Below w.heap.size w w' := by
  have hq := ptr_nil b pre.size
  have c1 : w.cell? ⟨b, pre.size, none⟩ = some (.map mo) := hV.cell
  have hb := hV.row.lt
  have bel : Below w.heap.size w (w.alloc (.cells #[.string ⟨#[]⟩, .string ⟨#[]⟩, .string ⟨#[]⟩, .string ⟨#[]⟩] 42)) := (Below.refl _ w).alloc (Nat.le_refl _) _
  have hl := look_ok_run (W := w.alloc (.cells #[.string ⟨#[]⟩, .string ⟨#[]⟩, .string ⟨#[]⟩, .string ⟨#[]⟩] 42)) (hV.below bel).none (fun m e => (hV.below bel).held m e) ht hr
  unfold getV
  cases hx : σ t r with
  | none =>
    rw [hx] at hl
    have ea := atC_none hx
    rw [ea] at hl ⊢
    simp only [Option.isSome_none] at hl
    clear hV ea hx
    go_enter Tryz.func45, Tryz.ntmps45
    go_wp2
    refine bodyPost_ret (v := .tuple #[.agg #[.string ⟨#[]⟩, .string ⟨#[]⟩, .string ⟨#[]⟩, .string ⟨#[]⟩], .iface 56 (.int .i64 7)]) (by simp [results, Tryz.results45, go_sem]) rfl ⟨rfl, ?_⟩
    exact ((Below.refl _ w).alloc (Nat.le_refl _) _).alloc (by simp) _
  | some p =>
    rw [hx] at hl
    simp only [Option.isSome_some] at hl
    generalize atC σ t r = x at hl ⊢
    clear hV hx
    go_enter Tryz.func45, Tryz.ntmps45
    go_wp2
    refine bodyPost_ret (v := .tuple #[.agg #[.string x.t, .string x.r, .string x.s, .string x.v], .nilIface]) (by simp [results, Tryz.results45, go_sem]) rfl ⟨rfl, ?_⟩
    exact ((Below.refl _ w).alloc (Nat.le_refl _) _).alloc (by simp) _
end Go.Proofs.YtkbaalenbpgheaaGreatDoor

/- What the program's vault has of a subject, and keeps of it. -/
namespace Go.Proofs.YtkbaalenbpgheaaGreatDoor
open Go.RowKit Go.Maps
attribute [local go_sem ↓] Go.wp_at_zero Go.wp_at_succ
set_option maxRecDepth 100000 in
set_option maxHeartbeats 1000000 in
theorem of_any (b : Nat) (mo : Option Nat) (sec s : ByteArray) (n : Nat) (σ : Kept) (w : World) (hs : s.size ≤ 60) (hV : ProgV w b mo sec n σ) :
    Calls Tryz.prog 121 #[.pointer (some ⟨b, 0, none⟩), .string s] w fun e w' => e = .returned (.agg #[.int .i64 ((σ s.data.toList).1 : Int), .string (lastB sec σ s)]) ∧ Below w.heap.size w w' := by
  have hkey := key9 s hs
  have c1 : w.cell? ⟨b, 1, none⟩ = some (.map mo) := hV.row.cell 1
  have hb := hV.row.lt
  cases mo with
  | none =>
    have e0 := hV.none rfl
    subst e0
    have hl : lastB sec kept0 s = ByteArray.empty := rfl
    have hn := fun wx => Maps.look_nil (P := Tryz.prog) (w := wx) false law9 Tryz.underlying99 (zero107 wx) hkey
    rw [hl]
    go_enter Tryz.func121, Tryz.ntmps121
    go_wp2
    exact bodyPost_ret (v := .agg #[.int .i64 0, .string ByteArray.empty]) (results_cell_row Tryz.results121 _ _ w.heap.size 103 #[.int .i64 0, .string ByteArray.empty] (0, 0) _ rfl (HasR.new w 103 _) Tryz.underlying103 rfl (by kernel_rfl)) rfl ⟨rfl, (Below.refl _ w).alloc (Nat.le_refl _) _⟩
  | some m =>
    obtain ⟨D, ho, hi⟩ := hV.held m rfl
    have hm := ho.lt
    have hv : ∀ u ps, holdElem u = some (D.atKey (.string s.data.toList) (holdD 0 []), ps) → u = .agg #[.int .i64 ((σ s.data.toList).1 : Int), .string (lastB sec σ s)] := fun u ps h => by
      rw [hi.2] at h
      rw [holdElem_is h, lastB_is]
    generalize lastB sec σ s = k at hv
    generalize (σ s.data.toList).1 = a at hv
    have HV := hide hv
    clear hv hi hV
    go_enter Tryz.func121, Tryz.ntmps121
    go_wp2_with (at_lookup; refine lookup_at _ rfl _ _ 99 rfl 9 103 law9 Tryz.underlying99 holdElem (zero107 _) (holdD 0 []) [] rfl m n D rfl (ho.alloc _) _ _ rfl hkey _ HV.out ?_)
    exact bodyPost_ret (v := .agg #[.int .i64 (a : Int), .string k]) (results_cell_row Tryz.results121 _ _ w.heap.size 103 #[.int .i64 (a : Int), .string k] (0, 0) _ rfl (HasR.new w 103 _) Tryz.underlying103 rfl (by kernel_rfl)) rfl ⟨rfl, (Below.refl _ w).alloc (Nat.le_refl _) _⟩
end Go.Proofs.YtkbaalenbpgheaaGreatDoor
