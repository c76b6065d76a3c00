/- The law TableLast: what its closures tell of an event. -/
import Derived.Test.YtpfihhilgeihoaaThree
import Derived.Test.YtpfihhilgeihoaaAfter
import Derived.BigQuiet
import Derived.WalkSmall
namespace Go.Proofs.Ytpfihhilgeihoaa
open Go.RowKit Go.Sort
attribute [local go_sem ↓] Go.wp_at_zero Go.wp_at_succ
set_option linter.unusedSectionVars false
set_option linter.unusedSimpArgs false
variable [Inhabited Cl] [Inhabited Ev]
/-- What the closures have of the list and the place in it. -/
structure Capt (w : World) (B I b off n cap i : Nat) (e : Ev) : Prop where
  l : w.cell? ⟨B, 0, none⟩ = some (.slice (some ⟨b, off, none⟩) n cap)
  p : w.cell? ⟨I, 0, none⟩ = some (.int .i64 i)
  lt : i < n
  c0 : w.cell? ⟨b, off + i * 5, none⟩ = some (.int .i64 e.k)
  c1 : w.cell? ⟨b, off + i * 5 + 1, none⟩ = some (.string e.s)
  c2 : w.cell? ⟨b, off + i * 5 + 2, none⟩ = some (.string e.t)
  c3 : w.cell? ⟨b, off + i * 5 + 3, none⟩ = some (.string e.r)
  c4 : w.cell? ⟨b, off + i * 5 + 4, none⟩ = some (.string e.v)
theorem Capt.below {w w' : World} {B I b off n cap i : Nat} {e : Ev} (h : Capt w B I b off n cap i e) (k : Below w.heap.size w w') : Capt w' B I b off n cap i e :=
  ⟨(k.cell (p := ⟨B, 0, none⟩) (block_lt_of_cell h.l)).trans h.l, (k.cell (p := ⟨I, 0, none⟩) (block_lt_of_cell h.p)).trans h.p, h.lt,
    (k.cell (p := ⟨b, off + i * 5, none⟩) (block_lt_of_cell h.c0)).trans h.c0, (k.cell (p := ⟨b, off + i * 5 + 1, none⟩) (block_lt_of_cell h.c1)).trans h.c1,
    (k.cell (p := ⟨b, off + i * 5 + 2, none⟩) (block_lt_of_cell h.c2)).trans h.c2, (k.cell (p := ⟨b, off + i * 5 + 3, none⟩) (block_lt_of_cell h.c3)).trans h.c3,
    (k.cell (p := ⟨b, off + i * 5 + 4, none⟩) (block_lt_of_cell h.c4)).trans h.c4⟩
theorem below_dn {B : Nat} {a w : World} (h : Below B a w) (n : Nat) : Below B a (w.drewN n) := h.trans ⟨rfl, rfl, rfl, Nat.le_refl _, fun _ _ => rfl⟩
theorem same_no {a b : ByteArray} (h : a ≠ b) : (a.toList == b.toList) = false := by rw [same_bytes]; exact decide_eq_false h
set_option maxRecDepth 100000 in
set_option maxHeartbeats 1000000 in
/-- The cell is the subject's. -/
theorem ownFn_any (c : Cl) (B I b off n cap i : Nat) (e : Ev) (W : World) (h : Capt W B I b off n cap i e) :
    Calls Try.prog 23 #[.agg #[.string c.t, .string c.r, .string c.s, .string c.v], .pointer (some ⟨B, 0, none⟩), .pointer (some ⟨I, 0, none⟩)] W fun x w' => x = .returned (.bool (decide (c.s = e.s))) ∧ Below W.heap.size W w' := by
  have bel : Below W.heap.size W (W.alloc (.cells #[.string c.t, .string c.r, .string c.s, .string c.v] 42)) := (Below.refl _ W).alloc (Nat.le_refl _) _
  have k0 : (W.alloc (.cells #[.string c.t, .string c.r, .string c.s, .string c.v] 42)).cell? ⟨W.heap.size, 2, none⟩ = some (.string c.s) := by simp
  obtain ⟨hl, hi, hlt, c0, c1, c2, c3, c4⟩ := h.below bel
  have h2 := same_bytes c.s e.s
  clear h c0 c2 c3 c4
  go_enter Try.func23, Try.ntmps23
  go_wp2
  go_quiet (fail)
  go_wp2
  go_ret
  exact ⟨ret_val (by simp), below_dn bel _⟩
theorem byKind (k j : Int) : k = j ∨ ((k == j) = false ∧ decide (k = j) = false) := by
  by_cases h : k = j
  · exact .inl h
  · exact .inr ⟨by simpa using h, decide_eq_false h⟩
set_option maxRecDepth 100000 in
set_option maxHeartbeats 1000000 in
/-- The event is the subject's Put. -/
theorem putFn_any (f e : Ev) (B I b off n cap i : Nat) (W : World) (h : Capt W B I b off n cap i e) :
    Calls Try.prog 21 #[.agg #[.int .i64 f.k, .string f.s, .string f.t, .string f.r, .string f.v], .pointer (some ⟨B, 0, none⟩), .pointer (some ⟨I, 0, none⟩)] W fun x w' => x = .returned (.bool (decide (f.k = 1) && decide (f.s = e.s))) ∧ Below W.heap.size W w' := by
  obtain ⟨fk, fs, ft, fr, fv⟩ := f
  simp only
  have bel : Below W.heap.size W (W.alloc (.cells #[.int .i64 fk, .string fs, .string ft, .string fr, .string fv] 36)) := (Below.refl _ W).alloc (Nat.le_refl _) _
  obtain ⟨k0, k1, k2, k3, k4⟩ := box_cells (HasR.new W 36 (evA ⟨fk, fs, ft, fr, fv⟩))
  unfold evA at k0 k1 k2 k3 k4
  obtain ⟨hl, hi, hlt, c0, c1, c2, c3, c4⟩ := h.below bel
  have h2 := same_bytes fs e.s
  clear h c0 c2 c3 c4 k2 k3 k4
  rcases byKind fk 1 with hk | ⟨hk, hd⟩
  · subst hk
    go_enter Try.func21, Try.ntmps21
    go_wp2
    go_quiet (fail)
    go_wp2
    go_ret
    exact ⟨ret_val (by simp), below_dn bel _⟩
  · go_enter Try.func21, Try.ntmps21
    go_wp2
    go_quiet (fail)
    go_wp2
    go_ret
    exact ⟨ret_val (by simp [hd]), below_dn bel _⟩
set_option maxRecDepth 100000 in
set_option maxHeartbeats 4000000 in
/-- The event has to do with the row behind its Put. -/
theorem laterFn_any (f e : Ev) (B I b off n cap i : Nat) (W : World) (h : Capt W B I b off n cap i e) :
    Calls Try.prog 18 #[.agg #[.int .i64 f.k, .string f.s, .string f.t, .string f.r, .string f.v], .pointer (some ⟨B, 0, none⟩), .pointer (some ⟨I, 0, none⟩)] W fun x w' => x = .returned (.bool (laterB e f)) ∧ Below W.heap.size W w' := by
  obtain ⟨fk, fs, ft, fr, fv⟩ := f
  simp only
  have bel : Below W.heap.size W (W.alloc (.cells #[.int .i64 fk, .string fs, .string ft, .string fr, .string fv] 36)) := (Below.refl _ W).alloc (Nat.le_refl _) _
  have hb0 : HasR (W.alloc (.cells #[.int .i64 fk, .string fs, .string ft, .string fr, .string fv] 36)) W.heap.size 36 (evA ⟨fk, fs, ft, fr, fv⟩) := HasR.new W 36 (evA ⟨fk, fs, ft, fr, fv⟩)
  have R := hide (rightE_any fk fs ft fr fv (W.alloc (.cells #[.int .i64 fk, .string fs, .string ft, .string fr, .string fv] 36)))
  have HC := hide h
  have HB := hide hb0
  clear h hb0
  cases hr : rightB ⟨fk, fs, ft, fr, fv⟩
  · rw [hr] at R
    have hz : laterB e ⟨fk, fs, ft, fr, fv⟩ = false := by unfold laterB; rw [hr]; rfl
    rw [hz]
    clear hz hr
    go_enter Try.func18, Try.ntmps18
    go_wp2_with (go_at_call 13; (with_reducible refine R.out.mono ?_); rintro x w1 ⟨rfl, hb⟩)
    go_ret
    exact ⟨rfl, bel.trans (hb.mono bel.size)⟩
  · rw [hr] at R
    have hz : laterB e ⟨fk, fs, ft, fr, fv⟩ = ((decide (fk = 1) && (decide (ft = e.t) && decide (fr = e.r))) || (decide (fs = e.s) && (decide (fk = 3) || (decide (fk = 2) && (decide (ft = e.t) && decide (fr = e.r)))))) := by unfold laterB; rw [hr]; rfl
    rw [hz]
    have hkd := right_kind hr
    simp only at hkd
    clear hz hr
    have two : (decide (fs = e.s) = true ∧ (fs.toList == e.s.toList) = true) ∨ (decide (fs = e.s) = false ∧ (fs.toList == e.s.toList) = false) := by
      rw [same_bytes]; cases decide (fs = e.s) <;> simp
    have three : (decide (ft = e.t) = true ∧ (ft.toList == e.t.toList) = true ∧ decide (fr = e.r) = true ∧ (fr.toList == e.r.toList) = true) ∨ (decide (ft = e.t) = true ∧ (ft.toList == e.t.toList) = true ∧ decide (fr = e.r) = false ∧ (fr.toList == e.r.toList) = false) ∨ (decide (ft = e.t) = false ∧ (ft.toList == e.t.toList) = false ∧ (true = true) ∧ True) := by
      rw [same_bytes, same_bytes]; cases decide (ft = e.t) <;> cases decide (fr = e.r) <;> simp
    go_enter Try.func18, Try.ntmps18
    go_wp2_with (go_at_call 13; (with_reducible refine R.out.mono ?_); rintro x w1 ⟨rfl, hb⟩)
    have b1 := bel.trans (hb.mono bel.size)
    obtain ⟨hl, hi, hlt, c0, c1, c2, c3, c4⟩ := HC.out.below b1
    obtain ⟨k0, k1, k2, k3, k4⟩ := box_cells (HB.out.below hb HB.out.lt)
    clear HC HB R hb bel c0 c4 k4
    have B1 := hide b1
    clear b1
    rcases hkd with hk | hk | hk <;> subst hk <;> rcases two with ⟨hs, s2⟩ | ⟨hs, s2⟩ <;> rcases three with ⟨ht, t2, hr, r2⟩ | ⟨ht, t2, hr, r2⟩ | ⟨ht, t2, hr, r2⟩ <;>
      (go_quiet (fail)
       go_wp2
       go_quiet (fail)
       go_wp2
       go_ret
       exact ⟨ret_val (by simp [hs, ht, hr]), below_dn B1.out _⟩)
theorem keep20 {w : World} {B I b o1 E : Nat} {x1 x2 x3 y0 y1 y2 y3 y4 : Value} (h : w.cell? ⟨B, 0, none⟩ = some x1 ∧ w.cell? ⟨I, 0, none⟩ = some x2 ∧ w.cell? ⟨b, o1, none⟩ = some x3 ∧ w.cell? ⟨E, 0, none⟩ = some y0 ∧ w.cell? ⟨E, 1, none⟩ = some y1 ∧ w.cell? ⟨E, 2, none⟩ = some y2 ∧ w.cell? ⟨E, 3, none⟩ = some y3 ∧ w.cell? ⟨E, 4, none⟩ = some y4) (w' : World) (k : Below w.heap.size w w') :
    w'.cell? ⟨B, 0, none⟩ = some x1 ∧ w'.cell? ⟨I, 0, none⟩ = some x2 ∧ w'.cell? ⟨b, o1, none⟩ = some x3 ∧ w'.cell? ⟨E, 0, none⟩ = some y0 ∧ w'.cell? ⟨E, 1, none⟩ = some y1 ∧ w'.cell? ⟨E, 2, none⟩ = some y2 ∧ w'.cell? ⟨E, 3, none⟩ = some y3 ∧ w'.cell? ⟨E, 4, none⟩ = some y4 := by
  have g : ∀ {p : Addr} {x : Value}, w.cell? p = some x → w'.cell? p = some x := fun h => (k.cell (block_lt_of_cell h)).trans h
  obtain ⟨h1, h2, h3, h4, h5, h6, h7, h8⟩ := h
  exact ⟨g h1, g h2, g h3, g h4, g h5, g h6, g h7, g h8⟩
set_option maxRecDepth 100000 in
set_option maxHeartbeats 2000000 in
/-- The event is the subject's Gone. -/
theorem goneFnE_any (f e : Ev) (B I b off n cap i : Nat) (W : World) (h : Capt W B I b off n cap i e) :
    Calls Try.prog 20 #[.agg #[.int .i64 f.k, .string f.s, .string f.t, .string f.r, .string f.v], .pointer (some ⟨B, 0, none⟩), .pointer (some ⟨I, 0, none⟩)] W fun x w' => x = .returned (.bool (decide (f.k = 3) && (decide (f.s = e.s) && rightB f))) ∧ Below W.heap.size W w' := by
  obtain ⟨fk, fs, ft, fr, fv⟩ := f
  simp only
  have bel : Below W.heap.size W (W.alloc (.cells #[.int .i64 fk, .string fs, .string ft, .string fr, .string fv] 36)) := (Below.refl _ W).alloc (Nat.le_refl _) _
  obtain ⟨k0, k1, k2, k3, k4⟩ := box_cells (HasR.new W 36 (evA ⟨fk, fs, ft, fr, fv⟩))
  unfold evA at k0 k1 k2 k3 k4
  obtain ⟨hl, hi, hlt, c0, c1, c2, c3, c4⟩ := h.below bel
  clear h c0 c2 c3 c4
  have two : (decide (fs = e.s) = true ∧ (fs.toList == e.s.toList) = true) ∨ (decide (fs = e.s) = false ∧ (fs.toList == e.s.toList) = false) := by
    rw [same_bytes]; cases decide (fs = e.s) <;> simp
  rcases byKind fk 3 with hk | ⟨hk, hd⟩
  · subst hk
    rcases two with ⟨hs, s2⟩ | ⟨hs, s2⟩
    · have R := hide (rightE_any 3 fs ft fr fv (W.alloc (.cells #[.int .i64 3, .string fs, .string ft, .string fr, .string fv] 36)).drew)
      generalize rightB ⟨3, fs, ft, fr, fv⟩ = rb at R ⊢
      have K := hide (keep20 ⟨hl, hi, c1, k0, k1, k2, k3, k4⟩)
      go_enter Try.func20, Try.ntmps20
      go_wp2
      go_region_held3 (fun wx => wx.cell? ⟨B, 0, none⟩ = some (.slice (some ⟨b, off, none⟩) n cap) ∧ wx.cell? ⟨I, 0, none⟩ = some (.int .i64 i) ∧ wx.cell? ⟨b, off + i * 5 + 1, none⟩ = some (.string e.s) ∧ wx.cell? ⟨W.heap.size, 0, none⟩ = some (.int .i64 3) ∧ wx.cell? ⟨W.heap.size, 1, none⟩ = some (.string fs) ∧ wx.cell? ⟨W.heap.size, 2, none⟩ = some (.string ft) ∧ wx.cell? ⟨W.heap.size, 3, none⟩ = some (.string fr) ∧ wx.cell? ⟨W.heap.size, 4, none⟩ = some (.string fv)) (first | (with_reducible exact K1.out) | (with_reducible exact K.out _ ⟨rfl, rfl, rfl, Nat.le_refl _, fun _ _ => rfl⟩) | go_keep)
        ((go_at_call 13; (with_reducible refine R.out.mono ?_); rintro x w1 ⟨rfl, hb⟩; have K1 := hide (K.out w1 ((Below.refl _ _).drew.trans hb))))
      go_wp2
      go_ret
      exact ⟨ret_val (by simp [hs]), bel.drew.trans (hb.mono bel.size)⟩
    · go_enter Try.func20, Try.ntmps20
      go_wp2
      go_quiet (fail)
      go_wp2
      go_ret
      exact ⟨ret_val (by simp [hs]), below_dn bel _⟩
  · go_enter Try.func20, Try.ntmps20
    go_wp2
    go_quiet (fail)
    go_wp2
    go_ret
    exact ⟨ret_val (by simp [hd]), below_dn bel _⟩
end Go.Proofs.Ytpfihhilgeihoaa
