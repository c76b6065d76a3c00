/- Texts of this proof, one behind the other. -/
import Derived.Deep.DeepCutAuto
import Derived.Test.YtedcbjefkhgiiabGreatDoorPart26
/- The document's Apply. -/
namespace Go.Proofs.YtedcbjefkhgiiabGreatDoor
open Go.RowKit Go.Sort
attribute [local go_sem ↓] Go.wp_at_zero Go.wp_at_succ
set_option linter.unusedSectionVars false
variable [Inhabited Cl]
theorem owns_some {w : World} {base size n : Nat} {e : TypeId} {v : Value} {xs : List Value} (h : w.ownsRow base e size v (n + 1) xs) : ∃ g cap, v = .slice (some ⟨g, 0, none⟩) (n + 1) cap := by
  rcases h.2 with ⟨_, h0⟩ | ⟨g, cap, cur, hv, _⟩
  · exact absurd h0 (by omega)
  · exact ⟨g, cap, hv⟩
/-- Behind the store of the new list. -/
theorem fin_ref {w w5 : World} {rb lo L : Nat} {v u : Value} {ds : List Cl} (hT : HasR w5 rb 27 #[v]) (hr : RefRow w5 L u ds) (hL : rb < L) (hb : Below w.heap.size w w5) (hlo : lo ≤ L) : HasR (w5.setCell ⟨rb, 0, none⟩ u) rb 27 #[u] ∧ RefRow (w5.setCell ⟨rb, 0, none⟩ u) lo u ds ∧ Stirred [rb] w (w5.setCell ⟨rb, 0, none⟩ u) := by
  have t : Stirred [rb] w5 (w5.setCell ⟨rb, 0, none⟩ u) := Stirred.setCell w5 ⟨rb, 0, none⟩ u
  refine ⟨by have := hT.set 0 u; exact this, (hr.turned t ?_).mono hlo, (Stirred.of_below hb [rb]).andThen t (fun j hj => .inl hj)⟩
  intro g hg
  rcases hr with ⟨rfl, _⟩ | ⟨g', cap, rfl, _, h2, _⟩
  · cases hg
  · cases hg
    simp
    omega
set_option maxHeartbeats 1000000 in
set_option maxRecDepth 100000 in
theorem refApply_wrong (rb : Nat) (e : Ev) (w : World) (he : Brief e) (hr : rightB e = false) :
    Calls Tryz.prog 13 #[.pointer (some ⟨rb, 0, none⟩), .agg #[.int .i64 e.k, .string e.s, .string e.t, .string e.r, .string e.v]] w fun x w' => x = .returned (.int .i64 1) ∧ Below w.heap.size w w' := by
  have bel : Below w.heap.size w (w.alloc (.cells #[.int .i64 e.k, .string e.s, .string e.t, .string e.r, .string e.v] 33)) := (Below.refl _ w).alloc (Nat.le_refl _) _
  have RA := hide (refRight_any e.k e.s e.t e.r e.v (w.alloc (.cells #[.int .i64 e.k, .string e.s, .string e.t, .string e.r, .string e.v] 33)) (Nat.le_trans he.s (by omega)) (Nat.le_trans he.t (by omega)) (Nat.le_trans he.r (by omega)) (Nat.le_trans he.v (by omega)))
  rw [show (⟨e.k, e.s, e.t, e.r, e.v⟩ : Ev) = e from rfl, hr] at RA
  go_enter Tryz.func13, Tryz.ntmps13
  go_wp2_with (go_at_call 53; (with_reducible refine RA.out.mono ?_); rintro x w1 ⟨rfl, hb1⟩; have BB := hide (bel.trans (hb1.mono bel.size)); clear hb1)
  go_ret
  exact ⟨rfl, BB.out⟩
set_option maxHeartbeats 4000000 in
set_option maxRecDepth 100000 in
theorem refApply_right (rb lo : Nat) (e : Ev) (σ : Tab) (l : List Cl) (v : Value) (w : World) (he : Brief e) (hr : rightB e = true) (hT : HasR w rb 27 #[v]) (hR : RefRow w lo v l) (hlo : lo ≤ w.heap.size) (hO : InOrd σ l) (hl : l.length ≤ 40) :
    Calls Tryz.prog 13 #[.pointer (some ⟨rb, 0, none⟩), .agg #[.int .i64 e.k, .string e.s, .string e.t, .string e.r, .string e.v]] w fun x w' => x = .returned (.int .i64 0) ∧ ∃ v' l', HasR w' rb 27 #[v'] ∧ RefRow w' lo v' l' ∧ InOrd (app e σ) l' ∧ l'.length ≤ l.length + 1 ∧ Stirred [rb] w w' := by
  have bel : Below w.heap.size w (w.alloc (.cells #[.int .i64 e.k, .string e.s, .string e.t, .string e.r, .string e.v] 33)) := (Below.refl _ w).alloc (Nat.le_refl _) _
  have RA := hide (refRight_any e.k e.s e.t e.r e.v (w.alloc (.cells #[.int .i64 e.k, .string e.s, .string e.t, .string e.r, .string e.v] 33)) (Nat.le_trans he.s (by omega)) (Nat.le_trans he.t (by omega)) (Nat.le_trans he.r (by omega)) (Nat.le_trans he.v (by omega)))
  rw [show (⟨e.k, e.s, e.t, e.r, e.v⟩ : Ev) = e from rfl, hr] at RA
  obtain ⟨p, cap, rfl⟩ := hR.rowC
  obtain ⟨i0, hi, hz0, hz1, hz2⟩ := info_parts info42
  have hrb : rb < w.heap.size := hT.lt
  have HT := hide hT
  have HR := hide hR
  have HO := hide hO
  have E0 := hide (HasR.new w 33 #[.int .i64 e.k, .string e.s, .string e.t, .string e.r, .string e.v])
  clear hT hR hO
  go_enter Tryz.func13, Tryz.ntmps13
  go_wp2_with (go_at_call 53; (with_reducible refine RA.out.mono ?_); rintro x w1 ⟨rfl, hb1⟩; have BB := hide (bel.trans (hb1.mono bel.size)); have EV := hide (E0.out.below hb1 E0.out.lt); have r0 : (w1.alloc (.cells #[.slice none 0 0] 25)).cell? ⟨rb, 0, none⟩ = some (.slice p l.length cap) := ((BB.out.alloc BB.out.size _).cell (p := ⟨rb, 0, none⟩) hrb).trans (HT.out.cell 0); clear hb1)
  have S0 := hide (Lst.start (e := e) BB.out EV.out)
  clear RA r0 E0 bel
  go_loopw [18] (fun i wr => ∃ (k : Nat) (u : Value), i = .int .i64 k ∧ k ≤ l.length ∧ Lst w w1.heap.size e wr u (kept e (l.take k))) (fun i _ => l.length - (intOf i).toNat)
  case atStart => exact ⟨0, _, rfl, Nat.zero_le _, S0.out⟩
  case round =>
    clear S0
    obtain ⟨k, u, rfl, hk, hL⟩ := hrel
    have LL := hide hL
    by_cases hlt : k < l.length
    · have KT := hide (kept_take (e := e) hlt)
      obtain ⟨g, rfl, hg, _, hcap, c0, c1, c2, c3⟩ := HR.out.at hlt
      rw [← hL.bel.cell (p := ⟨g, k * 4, none⟩) hg] at c0
      rw [← hL.bel.cell (p := ⟨g, k * 4 + 1, none⟩) hg] at c1
      rw [← hL.bel.cell (p := ⟨g, k * 4 + 2, none⟩) hg] at c2
      rw [← hL.bel.cell (p := ⟨g, k * 4 + 3, none⟩) hg] at c3
      generalize l[k]! = c at c0 c1 c2 c3 KT
      clear hL
      have hlw := LL.out.bel.size
      go_upto_region 7 with fail
      have LA := hide (LL.out.still ((Below.refl _ wr).alloc (Nat.le_refl _) (.cells #[.string c.t, .string c.r, .string c.s, .string c.v] 44)))
      have XA := hide (HasR.new wr 44 #[.string c.t, .string c.r, .string c.s, .string c.v])
      clear c0 c1 c2 c3
      generalize wr.alloc (.cells #[.string c.t, .string c.r, .string c.s, .string c.v] 44) = wa at LA XA ⊢
      have x0 : wa.cell? ⟨wr.heap.size, 0, none⟩ = some (.string c.t) := XA.out.cell 0
      have x1 : wa.cell? ⟨wr.heap.size, 1, none⟩ = some (.string c.r) := XA.out.cell 1
      have x2 : wa.cell? ⟨wr.heap.size, 2, none⟩ = some (.string c.s) := XA.out.cell 2
      have x3 : wa.cell? ⟨wr.heap.size, 3, none⟩ = some (.string c.v) := XA.out.cell 3
      have y0 : wa.cell? ⟨w.heap.size, 0, none⟩ = some (.int .i64 e.k) := LA.out.ev.cell 0
      have y1 : wa.cell? ⟨w.heap.size, 1, none⟩ = some (.string e.s) := LA.out.ev.cell 1
      have y2 : wa.cell? ⟨w.heap.size, 2, none⟩ = some (.string e.t) := LA.out.ev.cell 2
      have y3 : wa.cell? ⟨w.heap.size, 3, none⟩ = some (.string e.r) := LA.out.ev.cell 3
      have b0 : wa.cell? ⟨w1.heap.size, 0, none⟩ = some u := LA.out.box.cell 0
      obtain ⟨sm, hsm⟩ : ∃ sm, sm = (decide (c.t = e.t) && decide (c.r = e.r)) := ⟨_, rfl⟩
      have HOUT : Hid (outB e c = ((decide (e.k = 1) && sm) || ((decide (e.k = 2) && (sm && decide (c.s = e.s))) || (decide (e.k = 3) && decide (c.s = e.s))))) := by show _ = _; unfold outB; rw [← hsm]
      go_cut [8] (fun s8 wx => s8 = .bool sm ∧ wa = wx)
      case first =>
        have q1 := same_bytes c.t e.t
        have q2 := same_bytes c.r e.r
        cases hd1 : decide (c.t = e.t) <;> cases hd2 : decide (c.r = e.r) <;>
          (rw [hd1] at q1; rw [hd2] at q2; rw [hd1, hd2] at hsm; subst hsm; clear hd1 hd2
           go_wp2
           go_meet
           exact ⟨rfl, rfl⟩)
      case rest =>
        obtain ⟨rfl, rfl⟩ := hcut
        clear hsm
        obtain ⟨o, ho⟩ : ∃ o, o = outB e c := ⟨_, rfl⟩
        rw [HOUT.out] at ho
        have KO : Hid (outB e c = o) := by show _ = _; rw [HOUT.out, ho]
        have q3 := same_bytes c.s e.s
        go_upto_region 8 with fail
        go_cut [9] (fun s9 wx => s9 = .bool o ∧ wa = wx)
        case first =>
          clear HOUT KO
          rcases right_kind hr with hk1 | hk1 | hk1 <;> cases hd3 : decide (c.s = e.s) <;> cases sm <;>
            (rw [hd3] at q3; rw [hk1] at y0; rw [hd3, hk1] at ho; simp at ho; clear hd3
             go_wp2
             go_meet
             exact ⟨by rw [ho], rfl⟩)
        case rest =>
          obtain ⟨rfl, rfl⟩ := hcut
          clear ho q3 HOUT
          have hkl := kept_len e (l.take k)
          rw [List.length_take] at hkl
          cases o with
          | true =>
            go_wp2
            refine ⟨⟨k + 1, u, by go_num, by omega, ?_⟩, by simp [intOf]; omega⟩
            rw [KT.out, KO.out, if_pos rfl, List.append_nil]
            exact LA.out
          | false =>
            have LB := hide (LA.out.still ((Below.refl _ wa).alloc (Nat.le_refl _) (.cells #[.string c.t, .string c.r, .string c.s, .string c.v] 44)))
            have HN := hide (cell_four_new wa c)
            have hla := LA.out.box.lt
            go_wp2_with (at_builtin; refine wpList_append_own _ rfl _ _ 25 rfl (w1.heap.size + 1) 44 i0 _ 4 64 Tryz.underlying25 hi hz0 hz1 hz2 rfl (by decide) _ _ _ rfl LB.out.own ⟨wa.heap.size, 0, none⟩ 1 1 (cellL c) rfl rfl HN.out (by simp [Value.oneCell', cellL]) (by unfold maxLen; omega) (by omega) (by simp; omega) ?_; intro v' w3 hown' hg3 hnil3; obtain ⟨g', cap', rfl⟩ := owns_some hown'; have X3 := LB.out.after hg3; have z3 : w3.cell? ⟨w1.heap.size, 0, none⟩ = some u := X3.cell 0; have f3 : w3.frozen? ⟨w1.heap.size, 0, none⟩ = false := X3.free 0; have HP := hide (LB.out.push hg3 hown'); clear hg3 hnil3 hown' X3; go_frame)
            refine ⟨⟨k + 1, .slice (some ⟨g', 0, none⟩) ((kept e (l.take k)).length + 1) cap', by go_num, by omega, ?_⟩, by simp [intOf]; omega⟩
            rw [KT.out, KO.out, if_neg (by decide)]
            exact HP.out
    · have hke : k = l.length := by omega
      have hL2 := hL
      rw [hke, List.take_length] at hL2
      clear LL hL hlt hk
      have LL := hide hL2
      clear hL2
      subst hke
      have hkl := kept_len e l
      have hlw := LL.out.bel.size
      have b0 : wr.cell? ⟨w1.heap.size, 0, none⟩ = some u := LL.out.box.cell 0
      have hbb := BB.out.size
      by_cases hk1 : e.k = 1
      · have y0 : wr.cell? ⟨w.heap.size, 0, none⟩ = some (.int .i64 1) := by rw [← hk1]; exact LL.out.ev.cell 0
        have y1 : wr.cell? ⟨w.heap.size, 1, none⟩ = some (.string e.s) := LL.out.ev.cell 1
        have y2 : wr.cell? ⟨w.heap.size, 2, none⟩ = some (.string e.t) := LL.out.ev.cell 2
        have y3 : wr.cell? ⟨w.heap.size, 3, none⟩ = some (.string e.r) := LL.out.ev.cell 3
        have y4 : wr.cell? ⟨w.heap.size, 4, none⟩ = some (.string e.v) := LL.out.ev.cell 4
        have LB := hide (LL.out.still ((Below.refl _ wr).alloc (Nat.le_refl _) (.cells #[.string e.t, .string e.r, .string e.s, .string e.v] 44)))
        have HN := hide (cell_four_new wr ⟨e.t, e.r, e.s, e.v⟩)
        have hla := LL.out.box.lt
        go_upto_region 14 with (at_builtin; refine wpList_append_own _ rfl _ _ 25 rfl (w1.heap.size + 1) 44 i0 _ 4 64 Tryz.underlying25 hi hz0 hz1 hz2 rfl (by decide) _ _ _ rfl LB.out.own ⟨wr.heap.size, 0, none⟩ 1 1 (cellL ⟨e.t, e.r, e.s, e.v⟩) rfl rfl HN.out (by simp [Value.oneCell', cellL]) (by unfold maxLen; omega) (by omega) (by simp; omega) ?_; intro v' w3 hown' hg3 hnil3; obtain ⟨g', cap', rfl⟩ := owns_some hown'; have X3 := LB.out.after hg3; have z3 : w3.cell? ⟨w1.heap.size, 0, none⟩ = some u := X3.cell 0; have f3 : w3.frozen? ⟨w1.heap.size, 0, none⟩ = false := X3.free 0; have HP := hide (LB.out.push hg3 hown'); clear hg3 hnil3 hown' X3; go_frame)
        generalize w3.setCell ⟨w1.heap.size, 0, none⟩ (.slice (some ⟨g', 0, none⟩) ((kept e l).length + 1) cap') = w4 at HP ⊢
        have b4 : w4.cell? ⟨w1.heap.size, 0, none⟩ = some (.slice (some ⟨g', 0, none⟩) ((kept e l).length + 1) cap') := HP.out.box.cell 0
        have EL : kept e l ++ [⟨e.t, e.r, e.s, e.v⟩] = leaves e l := by unfold leaves kept; rw [if_pos hk1]
        have HP2 : Lst w w1.heap.size e w4 (.slice (some ⟨g', 0, none⟩) ((kept e l).length + 1) cap') (leaves e l) := by rw [← EL]; exact HP.out
        have SO := hide (sortRef_any w w1.heap.size e w4 (.slice (some ⟨g', 0, none⟩) ((kept e l).length + 1) cap') (leaves e l) (app e σ) HP2 (by rw [← EL, List.length_append]; simp; omega) (leaves_apart HO.out.apart) (by rw [app_right hr]; exact leaves_mem (right_kind hr) HO.out.2))
        have LE : (leaves e l).length ≤ l.length + 1 := by rw [← EL, List.length_append]; simp; omega
        clear HP HP2 EL
        go_wp2_with (go_at_call 54; (with_reducible refine SO.out.mono ?_); rintro x w5 ⟨rfl, ds, ho5, hl5, hr5, hx5, hb5⟩; have r5 : HasR w5 rb 27 #[.slice p l.length cap] := HT.out.below hb5 hrb; have m0 : w5.cell? ⟨rb, 0, none⟩ = some (.slice p l.length cap) := r5.cell 0; have m1 : w5.frozen? ⟨rb, 0, none⟩ = false := r5.free 0; have m2 : w5.cell? ⟨w1.heap.size, 0, none⟩ = some (.slice (some ⟨g', 0, none⟩) ((kept e l).length + 1) cap') := hx5.cell 0; have FIN := hide (fin_ref (lo := lo) r5 hr5 (show rb < w1.heap.size + 1 by omega) hb5 (by omega)); clear r5 hr5 hx5 hb5)
        go_ret
        exact ⟨rfl, _, ds, FIN.out.1, FIN.out.2.1, ho5, by omega, FIN.out.2.2⟩
      · obtain ⟨p1, c1, rfl⟩ := LL.out.slice
        have y0 : wr.cell? ⟨w.heap.size, 0, none⟩ = some (.int .i64 e.k) := LL.out.ev.cell 0
        have dk1 : (e.k == 1) = false := by simp; exact hk1
        have EL : kept e l = leaves e l := by unfold leaves kept; rw [if_neg hk1, List.append_nil]
        have HP2 : Lst w w1.heap.size e wr (.slice p1 (kept e l).length c1) (leaves e l) := by rw [← EL]; exact LL.out
        have SO := hide (sortRef_any w w1.heap.size e wr (.slice p1 (kept e l).length c1) (leaves e l) (app e σ) HP2 (by rw [← EL]; omega) (leaves_apart HO.out.apart) (by rw [app_right hr]; exact leaves_mem (right_kind hr) HO.out.2))
        have LE : (leaves e l).length ≤ l.length + 1 := by rw [← EL]; omega
        clear HP2 EL
        go_wp2_with (go_at_call 54; (with_reducible refine SO.out.mono ?_); rintro x w5 ⟨rfl, ds, ho5, hl5, hr5, hx5, hb5⟩; have r5 : HasR w5 rb 27 #[.slice p l.length cap] := HT.out.below hb5 hrb; have m0 : w5.cell? ⟨rb, 0, none⟩ = some (.slice p l.length cap) := r5.cell 0; have m1 : w5.frozen? ⟨rb, 0, none⟩ = false := r5.free 0; have m2 : w5.cell? ⟨w1.heap.size, 0, none⟩ = some (.slice p1 (kept e l).length c1) := hx5.cell 0; have FIN := hide (fin_ref (lo := lo) r5 hr5 (show rb < w1.heap.size + 1 by omega) hb5 (by omega)); clear r5 hr5 hx5 hb5)
        go_ret
        exact ⟨rfl, _, ds, FIN.out.1, FIN.out.2.1, ho5, by omega, FIN.out.2.2⟩
end Go.Proofs.YtedcbjefkhgiiabGreatDoor

/- The document's Get. -/
namespace Go.Proofs.YtedcbjefkhgiiabGreatDoor
open Go.RowKit Go.Sort
attribute [local go_sem ↓] Go.wp_at_zero Go.wp_at_succ
set_option linter.unusedSectionVars false
variable [Inhabited Cl]
/-- What the document's Get answers. -/
def refGetV (σ : Tab) (t r : ByteArray) : Value := .tuple #[.agg #[.string (atC σ t r).t, .string (atC σ t r).r, .string (atC σ t r).s, .string (atC σ t r).v], if (σ t r).isSome = true then .int .i64 0 else .int .i64 7]
theorem refGetV_some {σ : Tab} {c : Cl} (h : σ c.t c.r = some (c.s, c.v)) : refGetV σ c.t c.r = .tuple #[.agg #[.string c.t, .string c.r, .string c.s, .string c.v], .int .i64 0] := by
  unfold refGetV
  rw [atC_some h, h]
  rfl
theorem refGetV_none {σ : Tab} {t r : ByteArray} (h : σ t r = none) : refGetV σ t r = .tuple #[.agg #[.string ⟨#[]⟩, .string ⟨#[]⟩, .string ⟨#[]⟩, .string ⟨#[]⟩], .int .i64 7] := by
  unfold refGetV
  rw [atC_none h, h]
  rfl
theorem HasR.four {w : World} {b : Nat} {t : TypeId} {a0 a1 a2 a3 : Value} (h : HasR w b t #[a0, a1, a2, a3]) (v0 v1 v2 v3 : Value) : HasR ((((w.setCell ⟨b, 0, none⟩ v0).setCell ⟨b, 1, none⟩ v1).setCell ⟨b, 2, none⟩ v2).setCell ⟨b, 3, none⟩ v3) b t #[v0, v1, v2, v3] := by
  have := (((h.set 0 v0).set 1 v1).set 2 v2).set 3 v3
  exact this
theorem stir4 (w : World) (b : Nat) (v0 v1 v2 v3 : Value) : Stirred [b] w ((((w.setCell ⟨b, 0, none⟩ v0).setCell ⟨b, 1, none⟩ v1).setCell ⟨b, 2, none⟩ v2).setCell ⟨b, 3, none⟩ v3) :=
  (((Stirred.setCell w ⟨b, 0, none⟩ v0).andThen (Stirred.setCell _ ⟨b, 1, none⟩ v1) (fun _ hj => .inl hj)).andThen (Stirred.setCell _ ⟨b, 2, none⟩ v2) (fun _ hj => .inl hj)).andThen (Stirred.setCell _ ⟨b, 3, none⟩ v3) (fun _ hj => .inl hj)
theorem none_snoc {l : List Cl} {c : Cl} {t r : ByteArray} {k : Nat} (h : ∀ c ∈ l.take k, ¬ (c.t = t ∧ c.r = r)) (hs : l.take (k + 1) = l.take k ++ [c]) (hc : ¬ (c.t = t ∧ c.r = r)) : ∀ c ∈ l.take (k + 1), ¬ (c.t = t ∧ c.r = r) := by
  rw [hs]
  intro d hd
  rcases List.mem_append.1 hd with hd | hd
  · exact h d hd
  · simp at hd
    subst hd
    exact hc
set_option maxHeartbeats 1000000 in
set_option maxRecDepth 100000 in
theorem refGet_any (rb lo : Nat) (t r : ByteArray) (σ : Tab) (l : List Cl) (v : Value) (w : World) (hT : HasR w rb 27 #[v]) (hR : RefRow w lo v l) (hO : InOrd σ l) (hl : l.length ≤ 1000) :
    Calls Tryz.prog 16 #[.pointer (some ⟨rb, 0, none⟩), .string t, .string r] w fun x w' => x = .returned (refGetV σ t r) ∧ Below w.heap.size w w' := by
  obtain ⟨p, cap, rfl⟩ := hR.rowC
  have hrb : rb < w.heap.size := hT.lt
  have bel : Below w.heap.size w (w.alloc (.cells #[.string ⟨#[]⟩, .string ⟨#[]⟩, .string ⟨#[]⟩, .string ⟨#[]⟩] 44)) := (Below.refl _ w).alloc (Nat.le_refl _) _
  have r0 : (w.alloc (.cells #[.string ⟨#[]⟩, .string ⟨#[]⟩, .string ⟨#[]⟩, .string ⟨#[]⟩] 44)).cell? ⟨rb, 0, none⟩ = some (.slice p l.length cap) := (bel.cell (p := ⟨rb, 0, none⟩) hrb).trans (hT.cell 0)
  have S0 := hide bel
  have X0 := hide (HasR.new w 44 #[.string ⟨#[]⟩, .string ⟨#[]⟩, .string ⟨#[]⟩, .string ⟨#[]⟩])
  have HR := hide hR
  have HO := hide hO
  clear hT hR hO bel
  go_enter Tryz.func16, Tryz.ntmps16
  go_wp2
  go_loopw [15] (fun i wr => ∃ k : Nat, i = .int .i64 k ∧ k ≤ l.length ∧ Below w.heap.size w wr ∧ HasR wr w.heap.size 44 #[.string ⟨#[]⟩, .string ⟨#[]⟩, .string ⟨#[]⟩, .string ⟨#[]⟩] ∧ Hid (∀ c ∈ l.take k, ¬ (c.t = t ∧ c.r = r))) (fun i _ => l.length - (intOf i).toNat)
  case atStart => exact ⟨0, rfl, Nat.zero_le _, S0.out, X0.out, fun c hc => by simp at hc⟩
  case round =>
    clear S0 X0 r0
    obtain ⟨k, rfl, hk, hB, hX, HN⟩ := hrel
    have hlw := hB.size
    by_cases hlt : k < l.length
    · obtain ⟨g, rfl, hg, _, hcap, c0, c1, c2, c3⟩ := HR.out.at hlt
      rw [← hB.cell (p := ⟨g, k * 4, none⟩) hg] at c0
      rw [← hB.cell (p := ⟨g, k * 4 + 1, none⟩) hg] at c1
      rw [← hB.cell (p := ⟨g, k * 4 + 2, none⟩) hg] at c2
      rw [← hB.cell (p := ⟨g, k * 4 + 3, none⟩) hg] at c3
      have HM : Hid (l[k]! ∈ l) := by show _ ∈ _; rw [getElem!_pos l k hlt]; exact List.getElem_mem hlt
      have HS : Hid (l.take (k + 1) = l.take k ++ [l[k]!]) := by show _ = _; rw [List.take_succ_eq_append_getElem hlt, getElem!_pos l k hlt]
      generalize l[k]! = c at c0 c1 c2 c3 HM HS
      have HB := hide (hB.alloc hB.size (.cells #[.string c.t, .string c.r, .string c.s, .string c.v] 44))
      have XB := hide (hX.alloc (.cells #[.string c.t, .string c.r, .string c.s, .string c.v] 44))
      clear hB hX
      by_cases hm1 : c.t = t
      · by_cases hm2 : c.r = r
        · have HC := hide ((HO.out.2 c).1 HM.out)
          subst hm1 hm2
          have x0 := XB.out.cell 0
          have x1 := XB.out.cell 1
          have x2 := XB.out.cell 2
          have x3 := XB.out.cell 3
          have f0 := XB.out.free 0
          have f1 := XB.out.free 1
          have f2 := XB.out.free 2
          have f3 := XB.out.free 3
          clear HN HM HS
          go_wp2
          have hlw1 : w.heap.size ≤ (wr.alloc (.cells #[.string c.t, .string c.r, .string c.s, .string c.v] 44)).heap.size := HB.out.size
          have XF := HasR.four XB.out (.string c.t) (.string c.r) (.string c.s) (.string c.v)
          have TF := stir4 (wr.alloc (.cells #[.string c.t, .string c.r, .string c.s, .string c.v] 44)) w.heap.size (.string c.t) (.string c.r) (.string c.s) (.string c.v)
          have TB := HB.out.trans (TF.below hlw1 (fun j hj => by simp at hj; omega))
          clear TF
          generalize (((((wr.alloc (.cells #[.string c.t, .string c.r, .string c.s, .string c.v] 44))).setCell ⟨w.heap.size, 0, none⟩ (.string c.t)).setCell ⟨w.heap.size, 1, none⟩ (.string c.r)).setCell ⟨w.heap.size, 2, none⟩ (.string c.s)).setCell ⟨w.heap.size, 3, none⟩ (.string c.v) = wf at XF TB ⊢
          have z0 : wf.cell? ⟨w.heap.size, 0, none⟩ = some (.string c.t) := XF.cell 0
          have z1 : wf.cell? ⟨w.heap.size, 1, none⟩ = some (.string c.r) := XF.cell 1
          have z2 : wf.cell? ⟨w.heap.size, 2, none⟩ = some (.string c.s) := XF.cell 2
          have z3 : wf.cell? ⟨w.heap.size, 3, none⟩ = some (.string c.v) := XF.cell 3
          refine bodyPost_ret (v := .tuple #[.agg #[.string c.t, .string c.r, .string c.s, .string c.v], .int .i64 0]) (by simp [results, Tryz.results16, go_sem, z0, z1, z2, z3]) rfl ⟨by rw [refGetV_some HC.out], TB⟩
        · have q1 := same_bytes c.t t
          have q2 := same_bytes c.r r
          rw [decide_eq_true hm1] at q1
          rw [decide_eq_false hm2] at q2
          clear hm1
          go_wp2
          exact ⟨⟨k + 1, by go_num, by omega, HB.out, XB.out, (none_snoc HN.out HS.out (fun h => hm2 h.2))⟩, by simp [intOf]; omega⟩
      · have q1 := same_bytes c.t t
        rw [decide_eq_false hm1] at q1
        go_wp2
        exact ⟨⟨k + 1, by go_num, by omega, HB.out, XB.out, (none_snoc HN.out HS.out (fun h => hm1 h.1))⟩, by simp [intOf]; omega⟩
    · have hke : k = l.length := by omega
      have hnone : σ t r = none := by
        cases hx : σ t r with
        | none => rfl
        | some q =>
          have hm : (⟨t, r, q.1, q.2⟩ : Cl) ∈ l := (HO.out.2 ⟨t, r, q.1, q.2⟩).2 hx
          have := HN.out
          rw [hke, List.take_length] at this
          exact absurd ⟨rfl, rfl⟩ (this _ hm)
      have HC := hide hnone
      have HB := hide hB
      have XB := hide hX
      have x0 := hX.cell 0
      have x1 := hX.cell 1
      have x2 := hX.cell 2
      have x3 := hX.cell 3
      have f0 := hX.free 0
      have f1 := hX.free 1
      have f2 := hX.free 2
      have f3 := hX.free 3
      clear HN hB hX hnone
      go_wp2
      have hlw1 : w.heap.size ≤ wr.heap.size := HB.out.size
      have XF := HasR.four XB.out (.string ⟨#[]⟩) (.string ⟨#[]⟩) (.string ⟨#[]⟩) (.string ⟨#[]⟩)
      have TF := stir4 wr w.heap.size (.string ⟨#[]⟩) (.string ⟨#[]⟩) (.string ⟨#[]⟩) (.string ⟨#[]⟩)
      have TB := HB.out.trans (TF.below hlw1 (fun j hj => by simp at hj; omega))
      clear TF
      generalize ((((wr).setCell ⟨w.heap.size, 0, none⟩ (.string ⟨#[]⟩)).setCell ⟨w.heap.size, 1, none⟩ (.string ⟨#[]⟩)).setCell ⟨w.heap.size, 2, none⟩ (.string ⟨#[]⟩)).setCell ⟨w.heap.size, 3, none⟩ (.string ⟨#[]⟩) = wf at XF TB ⊢
      have z0 : wf.cell? ⟨w.heap.size, 0, none⟩ = some (.string ⟨#[]⟩) := XF.cell 0
      have z1 : wf.cell? ⟨w.heap.size, 1, none⟩ = some (.string ⟨#[]⟩) := XF.cell 1
      have z2 : wf.cell? ⟨w.heap.size, 2, none⟩ = some (.string ⟨#[]⟩) := XF.cell 2
      have z3 : wf.cell? ⟨w.heap.size, 3, none⟩ = some (.string ⟨#[]⟩) := XF.cell 3
      refine bodyPost_ret (v := .tuple #[.agg #[.string ⟨#[]⟩, .string ⟨#[]⟩, .string ⟨#[]⟩, .string ⟨#[]⟩], .int .i64 7]) (by simp [results, Tryz.results16, go_sem, z0, z1, z2, z3]) rfl ⟨by rw [refGetV_none HC.out], TB⟩
end Go.Proofs.YtedcbjefkhgiiabGreatDoor
