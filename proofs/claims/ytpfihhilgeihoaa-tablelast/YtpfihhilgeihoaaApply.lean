/- An event happens to a table; a row is asked for. -/
import Derived.Test.YtpfihhilgeihoaaGone
import Derived.Test.YtpfihhilgeihoaaRight
import Derived.Test.YtpfihhilgeihoaaAfter
namespace Go.Proofs.Ytpfihhilgeihoaa
open Go.RowKit Go.Maps
attribute [local go_sem ↓] Go.wp_at_zero Go.wp_at_succ
/-- An event's cells. -/
def evL (e : Ev) : List Value := [.int .i64 e.k, .string e.s, .string e.t, .string e.r, .string e.v]
/-- An event that is short. -/
structure Brief (e : Ev) : Prop where
  s : e.s.size ≤ 60
  t : e.t.size ≤ 60
  r : e.r.size ≤ 60
  v : e.v.size ≤ 60
/-- What Apply answers. -/
def errOf (e : Ev) : Value := if rightB e = true then .nilIface else .iface 60 (.int .i64 1)
theorem Upd.grow {w w1 w' : World} {b : Nat} {mo mo' : Option Nat} {n m : Nat} {σ : Tab} (hb : Below w.heap.size w w1) (h : Upd w1 w' b mo mo' n σ) (hn : n ≤ m) : Upd w w' b mo mo' m σ := by
  obtain ⟨h1, h2, h3⟩ := h
  refine ⟨h1.mono hn, ?_, (Stirred.of_below hb _).andThen h3 (fun j hj => .inl hj)⟩
  rcases h2 with h2 | ⟨e, k, h4, h5⟩
  · exact .inl h2
  · exact .inr ⟨e, k, h4, Nat.le_trans hb.size h5⟩
theorem name_size {s : ByteArray} (h : nameB s.data.toList = true) : 1 ≤ s.size := by
  unfold nameB at h
  have h1 : s.data.toList.length = s.size := Array.length_toList
  rw [h1] at h
  simp only [Bool.and_eq_true, decide_eq_true_eq] at h
  exact h.1.1
theorem ptr_nil (b : Nat) (w : World) : (binOp .eql 65 (.pointer (some ⟨b, 0, none⟩)) (.pointer none)).run Try.prog w = .ok (.bool false) w := by kernel_rfl
set_option maxRecDepth 100000 in
set_option maxHeartbeats 2000000 in
theorem apply_any (b : Nat) (mo : Option Nat) (e : Ev) (n : Nat) (σ : Tab) (w : World) (he : Brief e) (hn : n < 1000) (hV : TabV w b mo n σ) :
    Calls Try.prog 12 #[.pointer (some ⟨b, 0, none⟩), .agg #[.int .i64 e.k, .string e.s, .string e.t, .string e.r, .string e.v]] w fun x w' => x = .returned (errOf e) ∧ ∃ mo', Upd w w' b mo mo' (n + 1) (app e σ) := by
  have HR := hide (rightE_any e.k e.s e.t e.r e.v (w.alloc (.cells #[.int .i64 e.k, .string e.s, .string e.t, .string e.r, .string e.v] 36)))
  have bel : Below w.heap.size w (w.alloc (.cells #[.int .i64 e.k, .string e.s, .string e.t, .string e.r, .string e.v] 36)) := (Below.refl _ w).alloc (Nat.le_refl _) _
  have hq := ptr_nil b
  have c0 : ∀ i v, #[Value.int .i64 e.k, .string e.s, .string e.t, .string e.r, .string e.v][i]? = some v → ∀ w1, Below (w.alloc (.cells #[.int .i64 e.k, .string e.s, .string e.t, .string e.r, .string e.v] 36)).heap.size (w.alloc (.cells #[.int .i64 e.k, .string e.s, .string e.t, .string e.r, .string e.v] 36)) w1 → w1.cell? ⟨w.heap.size, i, none⟩ = some v := by
    intro i v hi w1 hb1
    rw [hb1.cell (p := ⟨w.heap.size, i, none⟩) (by simp), (HasR.new w 36 _).cell i]
    exact hi
  have e5 : (⟨e.k, e.s, e.t, e.r, e.v⟩ : Ev) = e := rfl
  rw [e5] at HR
  unfold errOf
  cases hr : rightB e
  · rw [hr] at HR
    rw [app_wrong hr]
    have HV := hide hV
    clear hV c0 hr e5
    go_enter Try.func12, Try.ntmps12
    go_wp2_with (go_at_call 13; (with_reducible refine HR.out.mono ?_); rintro x w1 ⟨rfl, hb1⟩)
    go_ret
    have hb2 := bel.trans (hb1.mono (by simp))
    exact ⟨rfl, mo, (HV.out.below hb2).mono (by omega), .inl rfl, Stirred.of_below hb2 _⟩
  · rw [hr] at HR
    rw [app_right hr]
    rcases right_kind hr with hk | hk | hk
    · rw [act_put_is hk]
      have HP := hide (fun w1 (hb1 : Below w.heap.size w w1) => put_any b mo ⟨e.t, e.r, e.s, e.v⟩ n σ w1 ⟨he.t, he.r, he.s, he.v⟩ hn (hV.below hb1))
      have C0 := hide c0
      clear hV c0 hr e5
      rw [hk] at HR C0 bel ⊢
      go_enter Try.func12, Try.ntmps12
      go_wp2_with (first
        | (go_at_call 13; (with_reducible refine HR.out.mono ?_); rintro x w1 ⟨rfl, hb1⟩
           have hb2 := bel.trans (hb1.mono (by simp))
           have k0 := C0.out 0 _ rfl w1 hb1
           have k1 := C0.out 1 _ rfl w1 hb1
           have k2 := C0.out 2 _ rfl w1 hb1
           have k3 := C0.out 3 _ rfl w1 hb1
           have k4 := C0.out 4 _ rfl w1 hb1)
        | (go_at_call 34; (with_reducible refine (HP.out _ hb2).mono ?_); rintro x w2 ⟨rfl, mo', hu⟩))
      go_ret
      exact ⟨rfl, mo', hu.grow hb2 (Nat.le_refl _)⟩
    · have HD := hide (fun w1 (hb1 : Below w.heap.size w w1) => del_any b mo e.t e.r e.s n σ w1 he.t he.r (name_size (right_name hr)) (hV.below hb1))
      have eq : act e σ = if ownB (σ e.t e.r) e.s = true then delC e.t e.r σ else σ := by
        split
        · rename_i h; exact act_del_own hk h
        · rename_i h; exact act_del_other hk (by simpa using h)
      rw [eq]
      generalize (if ownB (σ e.t e.r) e.s = true then delC e.t e.r σ else σ) = τ at HD ⊢
      have C0 := hide c0
      clear hV c0 hr e5 eq
      rw [hk] at HR C0 bel ⊢
      go_enter Try.func12, Try.ntmps12
      go_wp2_with (first
        | (go_at_call 13; (with_reducible refine HR.out.mono ?_); rintro x w1 ⟨rfl, hb1⟩
           have hb2 := bel.trans (hb1.mono (by simp))
           have k0 := C0.out 0 _ rfl w1 hb1
           have k1 := C0.out 1 _ rfl w1 hb1
           have k2 := C0.out 2 _ rfl w1 hb1
           have k3 := C0.out 3 _ rfl w1 hb1)
        | (go_at_call 35; (with_reducible refine (HD.out _ hb2).mono ?_); rintro x w2 ⟨rfl, hu⟩))
      go_ret
      exact ⟨rfl, mo, hu.grow hb2 (Nat.le_succ _)⟩
    · have HG := hide (fun w1 (hb1 : Below w.heap.size w w1) => gone_any b mo e.s n σ w1 (hV.below hb1))
      rw [act_gone_is (by omega) (by omega)]
      have C0 := hide c0
      clear hV c0 hr e5
      rw [hk] at HR C0 bel ⊢
      go_enter Try.func12, Try.ntmps12
      go_wp2_with (first
        | (go_at_call 13; (with_reducible refine HR.out.mono ?_); rintro x w1 ⟨rfl, hb1⟩
           have hb2 := bel.trans (hb1.mono (by simp))
           have k0 := C0.out 0 _ rfl w1 hb1
           have k1 := C0.out 1 _ rfl w1 hb1)
        | (go_at_call 36; (with_reducible refine (HG.out _ hb2).mono ?_); rintro x w2 ⟨rfl, hu⟩))
      go_ret
      exact ⟨rfl, mo, hu.grow hb2 (Nat.le_succ _)⟩
/-- What Get answers. -/
def getV (σ : Tab) (t r : ByteArray) : Value := .tuple #[.agg #[.string (atC σ t r).t, .string (atC σ t r).r, .string (atC σ t r).s, .string (atC σ t r).v], if (σ t r).isSome = true then .nilIface else .iface 60 (.int .i64 7)]
set_option maxRecDepth 100000 in
set_option maxHeartbeats 1000000 in
theorem get_any (b : Nat) (mo : Option Nat) (t r : ByteArray) (n : Nat) (σ : Tab) (w : World) (ht : t.size ≤ 60) (hr : r.size ≤ 60) (hV : TabV w b mo n σ) :
    Calls Try.prog 16 #[.pointer (some ⟨b, 0, none⟩), .string t, .string r] w fun x w' => x = .returned (getV σ t r) ∧ Below w.heap.size w w' := by
  have hq := ptr_nil b
  have c1 : w.cell? ⟨b, 0, none⟩ = some (.map mo) := hV.row.cell 0
  have hb := hV.row.lt
  have bel : Below w.heap.size w (w.alloc (.cells #[.string ⟨#[]⟩, .string ⟨#[]⟩, .string ⟨#[]⟩, .string ⟨#[]⟩] 42)) := (Below.refl _ w).alloc (Nat.le_refl _) _
  have hl := look_ok_run (W := w.alloc (.cells #[.string ⟨#[]⟩, .string ⟨#[]⟩, .string ⟨#[]⟩, .string ⟨#[]⟩] 42)) (hV.below bel).none (fun m e => (hV.below bel).held m e) ht hr
  unfold getV
  cases hx : σ t r with
  | none =>
    rw [hx] at hl
    have ea := atC_none hx
    rw [ea] at hl ⊢
    simp only [Option.isSome_none] at hl
    clear hV ea hx
    go_enter Try.func16, Try.ntmps16
    go_wp2
    refine bodyPost_ret (v := .tuple #[.agg #[.string ⟨#[]⟩, .string ⟨#[]⟩, .string ⟨#[]⟩, .string ⟨#[]⟩], .iface 60 (.int .i64 7)]) (by simp [results, Try.results16, go_sem]) rfl ⟨rfl, ?_⟩
    exact ((Below.refl _ w).alloc (Nat.le_refl _) _).alloc (by simp) _
  | some p =>
    rw [hx] at hl
    simp only [Option.isSome_some] at hl
    generalize atC σ t r = x at hl ⊢
    clear hV hx
    go_enter Try.func16, Try.ntmps16
    go_wp2
    refine bodyPost_ret (v := .tuple #[.agg #[.string x.t, .string x.r, .string x.s, .string x.v], .nilIface]) (by simp [results, Try.results16, go_sem]) rfl ⟨rfl, ?_⟩
    exact ((Below.refl _ w).alloc (Nat.le_refl _) _).alloc (by simp) _
end Go.Proofs.Ytpfihhilgeihoaa
