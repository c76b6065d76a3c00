/- Texts of this proof, one behind the other. -/
import Derived.Deep.DeepCutAuto
import Derived.Test.YtkbaalenbpgheaaGreatDoorPart34
/- Load: a reader that goes on with what one had. -/
namespace Go.Proofs.YtkbaalenbpgheaaGreatDoor
open Go.RowKit Go.Sort
attribute [local go_sem ↓] Go.wp_at_zero Go.wp_at_succ
set_option linter.unusedSectionVars false
variable [Inhabited Cl] [Inhabited Ev]
theorem below_grow (W : World) (q : Nat) (os : Array Obj) : Below W.heap.size W (grow (W.drewN q) os) :=
  ⟨rfl, rfl, rfl, by rw [size_grow]; exact Nat.le_add_right _ _, fun k hk => heap_grow_old (W.drewN q) os hk⟩
/-- What Load has so far. -/
structure Ld (w0 w : World) (rb pb ab vb read lost : Nat) (mark : ByteArray) (k : Nat) (τ : Tab) (a : Cl) : Prop where
  tab : ∃ mt, TabV w rb 115 #[.pointer (some ⟨vb, 0, none⟩), .int .i64 (read : Int), .string mark, .int .i64 (lost : Int)] mt k τ ∧ ∀ m, mt = some m → w0.heap.size ≤ m
  box : HasR w pb 63 #[.pointer (some ⟨rb, 0, none⟩)]
  ahead : HasR w ab 42 #[.string a.t, .string a.r, .string a.s, .string a.v]
  lowR : w0.heap.size ≤ rb
  lowP : w0.heap.size ≤ pb
  lowA : w0.heap.size ≤ ab
  bel : Below w0.heap.size w0 w
theorem Ld.still {w0 w w' : World} {rb pb ab vb read lost : Nat} {mark : ByteArray} {k : Nat} {τ : Tab} {a : Cl} (h : Ld w0 w rb pb ab vb read lost mark k τ a) (b : Below w.heap.size w w') : Ld w0 w' rb pb ab vb read lost mark k τ a := by
  obtain ⟨mt, hT, hm⟩ := h.tab
  exact ⟨⟨mt, hT.below b, hm⟩, h.box.below b h.box.lt, h.ahead.below b h.ahead.lt, h.lowR, h.lowP, h.lowA, h.bel.trans (b.mono h.bel.size)⟩
theorem geq_no (a c : Cl) (h : ltC a c = true) : ¬ (0 : Int) ≤ cmpC a c := by
  have := cmpC_lt a c
  rw [h, decide_eq_true_eq] at this
  omega
set_option maxRecDepth 100000 in
set_option maxHeartbeats 4000000 in
/-- Load's closure: a row is put. -/
theorem put1_any (w0 w : World) (rb pb ab vb read lost : Nat) (mark : ByteArray) (k : Nat) (τ : Tab) (a c : Cl) (h : Ld w0 w rb pb ab vb read lost mark k τ a) (hlt : ltC a c = true) (hr : rightB (evOfC c) = true) (hb : Brief (evOfC c)) (hk : k < 1000) :
    Calls Tryz.prog 61 #[.agg #[.string c.t, .string c.r, .string c.s, .string c.v], .pointer (some ⟨ab, 0, none⟩), .pointer (some ⟨pb, 0, none⟩)] w fun x w' => x = .returned .nilIface ∧ Ld w0 w' rb pb ab vb read lost mark (k + 1) (app (evOfC c) τ) c := by
  have bel : Below w.heap.size w (w.alloc (.cells #[.string c.t, .string c.r, .string c.s, .string c.v] 42)) := (Below.refl _ w).alloc (Nat.le_refl _) _
  have L1 := hide (h.still bel)
  have C1 := hide (HasR.new w 42 #[.string c.t, .string c.r, .string c.s, .string c.v])
  have N1 := geq_no a c hlt
  have D1 : decide ((0 : Int) ≤ cmpC a c) = false := decide_eq_false N1
  have CM := hide (fun W => compare_any a c W)
  have eo : errOf (evOfC c) = .nilIface := by unfold errOf; rw [if_pos hr]
  have AP := hide (fun W mt (hT : TabV W rb 115 #[.pointer (some ⟨vb, 0, none⟩), .int .i64 (read : Int), .string mark, .int .i64 (lost : Int)] mt k τ) => (show Calls Tryz.prog 44 #[.pointer (some ⟨rb, 4, none⟩), .agg #[.int .i64 1, .string c.s, .string c.t, .string c.r, .string c.v]] W fun x w' => x = .returned .nilIface ∧ ∃ mo', Upd W w' rb 115 #[.pointer (some ⟨vb, 0, none⟩), .int .i64 (read : Int), .string mark, .int .i64 (lost : Int)] mt mo' (k + 1) (app (evOfC c) τ) from by
    have := apply_any rb 115 #[.pointer (some ⟨vb, 0, none⟩), .int .i64 (read : Int), .string mark, .int .i64 (lost : Int)] mt (evOfC c) k τ W hb hk hT
    rw [eo] at this
    exact this))
  have PU := hide (fun W => putOf_any W c)
  have ltw := h.ahead.lt
  have l0 : w.heap.size ≤ w.heap.size := Nat.le_refl _
  have BL := hide bel
  have NA : Hid (ab ≠ w.heap.size) := hide (by omega)
  have dd : decide ((0 : Int) ≤ cmpC a c) = false := D1
  clear h hlt hr hb eo bel D1
  go_enter Tryz.func61, Tryz.ntmps61
  go_upto_region 1 with fail
  generalize w.alloc (.cells #[.string c.t, .string c.r, .string c.s, .string c.v] 42) = W1 at L1 C1 BL ⊢
  have a0 : W1.cell? ⟨ab, 0, none⟩ = some (.string a.t) := L1.out.ahead.cell 0
  have a1 : W1.cell? ⟨ab, 1, none⟩ = some (.string a.r) := L1.out.ahead.cell 1
  have a2 : W1.cell? ⟨ab, 2, none⟩ = some (.string a.s) := L1.out.ahead.cell 2
  have a3 : W1.cell? ⟨ab, 3, none⟩ = some (.string a.v) := L1.out.ahead.cell 3
  have c0 : W1.cell? ⟨w.heap.size, 0, none⟩ = some (.string c.t) := C1.out.cell 0
  have c1 : W1.cell? ⟨w.heap.size, 1, none⟩ = some (.string c.r) := C1.out.cell 1
  have c2 : W1.cell? ⟨w.heap.size, 2, none⟩ = some (.string c.s) := C1.out.cell 2
  have c3 : W1.cell? ⟨w.heap.size, 3, none⟩ = some (.string c.v) := C1.out.cell 3
  go_upto_region 4 with (
    go_at_call 62; (with_reducible refine (CM.out _).mono ?_); rintro y w2 ⟨rfl, q, os, hw2⟩
    have B2 := hide (show Below W1.heap.size W1 w2 from by rw [hw2]; exact below_grow W1 q os)
    have L2 := hide (L1.out.still B2.out)
    have C2 := hide (C1.out.below B2.out C1.out.lt)
    have d0 : w2.cell? ⟨w.heap.size, 0, none⟩ = some (.string c.t) := C2.out.cell 0
    have d1 : w2.cell? ⟨w.heap.size, 1, none⟩ = some (.string c.r) := C2.out.cell 1
    have d2 : w2.cell? ⟨w.heap.size, 2, none⟩ = some (.string c.s) := C2.out.cell 2
    have d3 : w2.cell? ⟨w.heap.size, 3, none⟩ = some (.string c.v) := C2.out.cell 3
    have g0 : w2.cell? ⟨ab, 0, none⟩ = some (.string a.t) := L2.out.ahead.cell 0
    have g1 : w2.cell? ⟨ab, 1, none⟩ = some (.string a.r) := L2.out.ahead.cell 1
    have g2 : w2.cell? ⟨ab, 2, none⟩ = some (.string a.s) := L2.out.ahead.cell 2
    have g3 : w2.cell? ⟨ab, 3, none⟩ = some (.string a.v) := L2.out.ahead.cell 3
    have f0 : w2.frozen? ⟨ab, 0, none⟩ = false := L2.out.ahead.free 0
    have f1 : w2.frozen? ⟨ab, 1, none⟩ = false := L2.out.ahead.free 1
    have f2 : w2.frozen? ⟨ab, 2, none⟩ = false := L2.out.ahead.free 2
    have f3 : w2.frozen? ⟨ab, 3, none⟩ = false := L2.out.ahead.free 3
    have na := NA.out
    have na2 := NA.out.symm
    clear hw2)
  clear a0 a1 a2 a3 c0 c1 c2 c3 d0 d1 d2 d3 g0 g1 g2 g3 f0 f1 f2 f3
  have ST := hide (stirF w2 ab (.string c.t) (.string c.r) (.string c.s) (.string c.v))
  have A4 := hide (HasR.four4 L2.out.ahead (.string c.t) (.string c.r) (.string c.s) (.string c.v))
  generalize (((w2.setCell ⟨ab, 0, none⟩ (.string c.t)).setCell ⟨ab, 1, none⟩ (.string c.r)).setCell ⟨ab, 2, none⟩ (.string c.s)).setCell ⟨ab, 3, none⟩ (.string c.v) = W4 at ST A4 ⊢
  obtain ⟨mt, hT2, hm2⟩ := L2.out.tab
  have nR : rb ∉ [ab] := fun hm => by simp at hm; exact hT2.row.apartT L2.out.ahead (by decide) hm
  have nM : ∀ m, mt = some m → m ∉ [ab] := fun m e hm => by
    obtain ⟨D, o, _⟩ := hT2.held m e
    simp at hm
    exact L2.out.ahead.noMap o hm.symm
  have nP : pb ∉ [ab] := fun hm => by simp at hm; exact L2.out.box.apartT L2.out.ahead (by decide) hm
  have T4 := hide (hT2.turned ST.out nR nM)
  have P4 := hide (L2.out.box.turned ST.out nP)
  have C4 := hide (C2.out.turned ST.out (by simp; exact na2))
  have hB4 : Below w0.heap.size w0 W4 := L2.out.bel.trans (ST.out.below L2.out.bel.size (fun j hj => by simp at hj; have := L2.out.lowA; omega))
  have L4 := hide (Ld.mk (w0 := w0) ⟨mt, T4.out, hm2⟩ P4.out A4.out L2.out.lowR L2.out.lowP L2.out.lowA hB4)
  have APD := hide (fun wx (hb : Below W4.heap.size W4 wx) => AP.out wx mt (T4.out.below hb))
  have nCR : w.heap.size ∉ rb :: mt.toList := fun hm => by
    rcases List.mem_cons.1 hm with e | e
    · exact C4.out.apartT T4.out.row (by decide) e
    · obtain ⟨D, o, _⟩ := T4.out.held w.heap.size (by simpa using e)
      exact C4.out.noMap o rfl
  have nPR : pb ∉ rb :: mt.toList := fun hm => by
    rcases List.mem_cons.1 hm with e | e
    · exact P4.out.apartT T4.out.row (by decide) e
    · obtain ⟨D, o, _⟩ := T4.out.held pb (by simpa using e)
      exact P4.out.noMap o rfl
  have nAR : ab ∉ rb :: mt.toList := fun hm => by
    rcases List.mem_cons.1 hm with e | e
    · exact A4.out.apartT T4.out.row (by decide) e
    · obtain ⟨D, o, _⟩ := T4.out.held ab (by simpa using e)
      exact A4.out.noMap o rfl
  have NCR := hide nCR
  have NPR := hide nPR
  have NAR := hide nAR
  have HM2 := hide hm2
  have LW := hide (And.intro L2.out.lowR (And.intro L2.out.lowP L2.out.lowA))
  clear hT2 hm2 nR nM nP nCR nPR nAR hB4 na na2
  have p0 : W4.cell? ⟨pb, 0, none⟩ = some (.pointer (some ⟨rb, 0, none⟩)) := P4.out.cell 0
  have c0 : W4.cell? ⟨w.heap.size, 0, none⟩ = some (.string c.t) := C4.out.cell 0
  have c1 : W4.cell? ⟨w.heap.size, 1, none⟩ = some (.string c.r) := C4.out.cell 1
  have c2 : W4.cell? ⟨w.heap.size, 2, none⟩ = some (.string c.s) := C4.out.cell 2
  have c3 : W4.cell? ⟨w.heap.size, 3, none⟩ = some (.string c.v) := C4.out.cell 3
  have BD := hide (Below.refl W4.heap.size W4).drew
  go_region_held3 (fun wx => wx.cell? ⟨pb, 0, none⟩ = some (.pointer (some ⟨rb, 0, none⟩)) ∧ wx.cell? ⟨w.heap.size, 0, none⟩ = some (.string c.t) ∧ wx.cell? ⟨w.heap.size, 1, none⟩ = some (.string c.r) ∧ wx.cell? ⟨w.heap.size, 2, none⟩ = some (.string c.s) ∧ wx.cell? ⟨w.heap.size, 3, none⟩ = some (.string c.v)) (first | (with_reducible exact K6.out) | (with_reducible exact K5.out) | go_keep)
    (first
    | (go_at_call 63; (with_reducible refine (PU.out _).mono ?_); rintro y w5 ⟨rfl, hb5⟩; have B5 := hide (BD.out.trans (hb5.mono BD.out.size)); have P5 := hide (P4.out.below B5.out P4.out.lt); have C5 := hide (C4.out.below B5.out C4.out.lt); have K5 := hide (And.intro (show w5.cell? ⟨pb, 0, none⟩ = some (.pointer (some ⟨rb, 0, none⟩)) from P5.out.cell 0) (And.intro (show w5.cell? ⟨w.heap.size, 0, none⟩ = some (.string c.t) from C5.out.cell 0) (And.intro (show w5.cell? ⟨w.heap.size, 1, none⟩ = some (.string c.r) from C5.out.cell 1) (And.intro (show w5.cell? ⟨w.heap.size, 2, none⟩ = some (.string c.s) from C5.out.cell 2) (show w5.cell? ⟨w.heap.size, 3, none⟩ = some (.string c.v) from C5.out.cell 3))))); clear hb5)
    | (go_at_call 44; (with_reducible refine (APD.out _ B5.out).mono ?_); rintro y w6 ⟨rfl, mt', hu⟩; have HU := hide hu; have P6 := hide (P5.out.turned hu.2.2 NPR.out); have C6 := hide (C5.out.turned hu.2.2 NCR.out); have K6 := hide (And.intro (show w6.cell? ⟨pb, 0, none⟩ = some (.pointer (some ⟨rb, 0, none⟩)) from P6.out.cell 0) (And.intro (show w6.cell? ⟨w.heap.size, 0, none⟩ = some (.string c.t) from C6.out.cell 0) (And.intro (show w6.cell? ⟨w.heap.size, 1, none⟩ = some (.string c.r) from C6.out.cell 1) (And.intro (show w6.cell? ⟨w.heap.size, 2, none⟩ = some (.string c.s) from C6.out.cell 2) (show w6.cell? ⟨w.heap.size, 3, none⟩ = some (.string c.v) from C6.out.cell 3))))); clear hu))
  go_wp2
  go_ret
  have L5 := L4.out.still B5.out
  obtain ⟨lR, lP, lA⟩ := LW.out
  have hs4 := L4.out.bel.size
  have hs5 := B5.out.size
  refine ⟨rfl, ⟨mt', HU.out.1, fun m e => ?_⟩, P6.out, L5.ahead.turned HU.out.2.2 NAR.out, lR, lP, lA, L5.bel.trans (HU.out.2.2.below L5.bel.size (fun j hj => ?_))⟩
  · rcases HU.out.2.1 with a1 | ⟨a1, m2, a2, a3⟩
    · exact HM2.out m (by rw [← a1]; exact e)
    · rw [a2] at e
      cases e
      omega
  · rcases List.mem_cons.1 hj with a1 | a1
    · omega
    · exact HM2.out j (by simpa using a1)
end Go.Proofs.YtkbaalenbpgheaaGreatDoor

/- A fact that the laws begin with: rows. -/
namespace Go.Proofs.YtkbaalenbpgheaaGreatDoor
open Go.RowKit Go.Sort
attribute [local go_sem ↓] Go.wp_at_zero Go.wp_at_succ
set_option linter.unusedSectionVars false
variable [Inhabited Cl] [Inhabited Ev]
theorem tabV_new (w : World) : TabV (w.alloc (.cells #[.map none] 88)) w.heap.size 88 #[] none 0 tab0 := ⟨HasR.new w 88 _, fun _ => rfl, fun m e => by cases e⟩
theorem Upd.below {w w' : World} {b : Nat} {mo mo' : Option Nat} {n B : Nat} {σ : Tab} (h : Upd w w' b 88 #[] mo mo' n σ) (hB : B ≤ w.heap.size) (hL : ∀ k ∈ b :: mo.toList, B ≤ k) : Below B w w' := h.2.2.below hB hL
theorem Upd.low {w w' : World} {b : Nat} {mo mo' : Option Nat} {n B : Nat} {σ : Tab} (h : Upd w w' b 88 #[] mo mo' n σ) (hB : B ≤ w.heap.size) (hL : ∀ k ∈ b :: mo.toList, B ≤ k) : ∀ k ∈ b :: mo'.toList, B ≤ k := by
  obtain ⟨_, h2, _⟩ := h
  rcases h2 with rfl | ⟨rfl, m, rfl, hm⟩
  · exact hL
  · intro k hk
    rcases List.mem_cons.1 hk with rfl | hk
    · exact hL _ (by simp)
    · simp at hk
      omega
theorem put_apply (b : Nat) (w : World) (hV : TabV w b 88 #[] none 0 tab0) :
    Calls Tryz.prog 44 #[.pointer (some ⟨b, 0, none⟩), .agg #[.int .i64 1, .string ⟨#[97, 110, 110]⟩, .string ⟨#[116]⟩, .string ⟨#[114]⟩, .string ⟨#[118]⟩]] w fun x w' => x = .returned .nilIface ∧ ∃ mo', Upd w w' b 88 #[] none mo' 1 (app putE tab0) := by
  have h := apply_any b 88 #[] none putE 0 tab0 w put_brief (by omega) hV
  rw [put_err] at h
  exact h
theorem gone_apply (b : Nat) (mo : Option Nat) (σ : Tab) (w : World) (hV : TabV w b 88 #[] mo 1 σ) :
    Calls Tryz.prog 44 #[.pointer (some ⟨b, 0, none⟩), .agg #[.int .i64 3, .string ⟨#[97, 110, 110]⟩, .string ⟨#[]⟩, .string ⟨#[]⟩, .string ⟨#[]⟩]] w fun x w' => x = .returned .nilIface ∧ ∃ mo', Upd w w' b 88 #[] mo mo' 2 (app goneE σ) := by
  have h := apply_any b 88 #[] mo goneE 1 σ w gone_brief (by omega) hV
  rw [gone_err] at h
  exact h
theorem put_get (b : Nat) (mo : Option Nat) (w : World) (hV : TabV w b 88 #[] mo 1 (app putE tab0)) :
    Calls Tryz.prog 45 #[.pointer (some ⟨b, 0, none⟩), .string ⟨#[116]⟩, .string ⟨#[114]⟩] w fun x w' => x = .returned (.tuple #[.agg #[.string ⟨#[116]⟩, .string ⟨#[114]⟩, .string ⟨#[97, 110, 110]⟩, .string ⟨#[118]⟩], .nilIface]) ∧ Below w.heap.size w w' := by
  have h := get_any b 88 #[] mo ⟨#[116]⟩ ⟨#[114]⟩ 1 _ w (by decide) (by decide) hV
  have eg : getV (app putE tab0) ⟨#[116]⟩ ⟨#[114]⟩ = .tuple #[.agg #[.string ⟨#[116]⟩, .string ⟨#[114]⟩, .string ⟨#[97, 110, 110]⟩, .string ⟨#[118]⟩], .nilIface] := by
    unfold getV; rw [atC_some put_at, put_at]; rfl
  rw [eg] at h
  exact h
theorem none_cells (b : Nat) (mo : Option Nat) (w : World) (hV : TabV w b 88 #[] mo 2 (app goneE (app putE tab0))) :
    Calls Tryz.prog 46 #[.pointer (some ⟨b, 0, none⟩)] w fun x w' => (∃ p c, x = .returned (.slice p 0 c)) ∧ Below w.heap.size w w' := by
  refine (cells_any b 88 #[] mo 2 _ w (by omega) hV).mono ?_
  rintro x w' ⟨v, ds, rfl, ho, _, hr, hb⟩
  rw [gone_all] at ho
  obtain rfl := ho.eq inOrd0
  obtain ⟨p, c, rfl⟩ := hr.len
  exact ⟨⟨p, c, rfl⟩, hb⟩
set_option maxRecDepth 100000 in
set_option maxHeartbeats 2000000 in
theorem applied_any (w : World) : Calls Tryz.prog 8 #[] w fun x w' => x = .returned (.bool true) ∧ Below w.heap.size w w' := by
  have bel0 : Below w.heap.size w (w.alloc (.cells #[.map none] 88)) := (Below.refl _ w).alloc (Nat.le_refl _) _
  have A1 := hide (put_apply w.heap.size (w.alloc (.cells #[.map none] 88)) (tabV_new w))
  have hn := nilIface_ne
  have he := nilIface_eq
  have hc := cell_eql ⟨⟨#[116]⟩, ⟨#[114]⟩, ⟨#[97, 110, 110]⟩, ⟨#[118]⟩⟩ ⟨⟨#[116]⟩, ⟨#[114]⟩, ⟨#[97, 110, 110]⟩, ⟨#[118]⟩⟩
  rw [eqC_self] at hc
  have hg := guard42
  simp only at hc
  go_enter Tryz.func8, Tryz.ntmps8
  go_wp2_with (first
    | (go_at_call 44; (with_reducible refine A1.out.mono ?_); rintro x w1 ⟨rfl, mo1, hu1⟩
       have bel1 := hide (bel0.trans (hu1.below (by simp) (by simp)))
       have low1 := hide (hu1.low (B := w.heap.size) (by simp) (by simp))
       have hs1 := bel1.out.size
       have U1 := hide hu1
       clear hu1
       have G := hide (put_get w.heap.size mo1 w1 U1.out.1))
    | (go_at_call 45; (with_reducible refine G.out.mono ?_); rintro x w2 ⟨rfl, hb2⟩
       have hb3 : Below w1.heap.size w1 (w2.alloc (.cells #[.string ⟨#[116]⟩, .string ⟨#[114]⟩, .string ⟨#[97, 110, 110]⟩, .string ⟨#[118]⟩] 42)) := hb2.alloc hb2.size _
       have hs2 := hb2.size
       have A2 := hide (gone_apply w.heap.size mo1 _ _ (U1.out.1.below hb3))
       have B3 := hide hb3
       clear hb2 hb3)
    | (go_at_call 44; (with_reducible refine A2.out.mono ?_); rintro x w3 ⟨rfl, mo2, hu2⟩
       have U2 := hide hu2
       clear hu2
       have C := hide (none_cells w.heap.size mo2 w3 U2.out.1))
    | (go_at_call 46; (with_reducible refine C.out.mono ?_); rintro x w4 ⟨⟨p, c, rfl⟩, hb4⟩))
  go_ret
  have h3 := U2.out.below (B := w.heap.size) (by simp; omega) low1.out
  exact ⟨rfl, ((bel1.out.trans (B3.out.mono hs1)).trans h3).trans (hb4.mono (by have := h3.size; simp at this; omega))⟩
end Go.Proofs.YtkbaalenbpgheaaGreatDoor

/- Who goes on goes on: a source, a reader of it and what it saved; then two readers side by side. -/
namespace Go.Proofs.YtkbaalenbpgheaaGreatDoor
open Go.RowKit Go.Sort
set_option linter.unusedSectionVars false
variable [Inhabited Cl] [Inhabited Ev]
/-- While more happens at the source: a reader, and what it saved, as they were. -/
structure Sv (w0 w : World) (B rb sb k n0 : Nat) (τ0 : Tab) (hd : ByteArray) (u : Value) (ds : List Cl) (st : Hst) : Prop where
  both : ∃ mt mv v mr nr mark, Src B w (B + 2) (B + 1) B mt mv v st.ok.length st.ok.length secB st.σ st.τ st.rs ∧ TabV w rb 115 #[.pointer (some ⟨B, 0, none⟩), .int .i64 (k : Int), .string mark, .int .i64 (n0 : Int)] mr nr τ0 ∧ nr ≤ 100 ∧ markAt k mark = hd ∧ (∀ m, mr = some m → m ∉ ownS (B + 2) (B + 1) B mt mv v ∧ B ≤ m) ∧ (∀ g, u.ownBlock = some g → g ∉ ownS (B + 2) (B + 1) B mt mv v)
  save : HasR w sb 67 #[.int .i64 (k : Int), .string hd, u, .int .i64 (n0 : Int)]
  row : RowC w B u ds
  lowR : B ≤ rb
  bel : Below w0.heap.size w0 w
theorem Sv.still {w0 w w' : World} {B rb sb k n0 : Nat} {τ0 : Tab} {hd : ByteArray} {u : Value} {ds : List Cl} {st : Hst} (h : Sv w0 w B rb sb k n0 τ0 hd u ds st) (b : Below w.heap.size w w') : Sv w0 w' B rb sb k n0 τ0 hd u ds st := by
  obtain ⟨mt, mv, v, mr, nr, mark, hS, hT, h1, h2, h3, h4⟩ := h.both
  exact ⟨⟨mt, mv, v, mr, nr, mark, hS.still b, hT.below b, h1, h2, h3, h4⟩, h.save.below b h.save.lt, h.row.below b (Nat.le_refl _), h.lowR, h.bel.trans (b.mono h.bel.size)⟩
/-- An event happens at the source, or does not. -/
theorem Sv.step {w0 w : World} {B rb sb k n0 : Nat} {τ0 : Tab} {hd : ByteArray} {u : Value} {ds : List Cl} {st : Hst} (h : Sv w0 w B rb sb k n0 τ0 hd u ds st) (hw : w0.heap.size ≤ B) (hD : Did secB st) (T : Tabs w) (h3 : 3 < B) (hn : st.ok.length < 90) (e : Ev) (he : Brief e) :
    Calls Tryz.prog 10 #[.pointer (some ⟨B + 2, 0, none⟩), .agg #[.int .i64 e.k, .string e.s, .string e.t, .string e.r, .string e.v]] w fun x w' => (∃ a b, x = .returned (.tuple #[a, b])) ∧ Sv w0 w' B rb sb k n0 τ0 hd u ds (hstep secB st e) := by
  obtain ⟨mt, mv, v, mr, nr, mark, hS, hT, h1, h2, h4, h5⟩ := h.both
  cases hdo : doesB st.σ st.τ e
  · refine (do_no B w _ _ _ _ _ _ _ _ _ _ _ _ e hS he (by decide) (by rw [hD.recs.1]; omega) (by omega) (by omega) T h3 hdo).mono ?_
    rintro x w' ⟨⟨z, rfl⟩, _, hb⟩
    exact ⟨⟨_, _, rfl⟩, by rw [hstep_no hdo]; exact h.still hb⟩
  · refine (do_yes B w _ _ _ _ _ _ _ _ _ _ _ _ e hS he (by decide) (by rw [hD.recs.1]; omega) (by omega) (by omega) T h3 hdo).mono ?_
    rintro x w' ⟨R, hR, rfl, ⟨mt7, m7, v7, hS7, hN⟩, hst, hb⟩
    have hsv := hS.apartR h.save (by decide) (by decide) (by decide) (by decide)
    refine ⟨⟨_, _, rfl⟩, ⟨mt7, some m7, v7, mr, nr, mark, ?_, hT.turned hst (hS.apartR hT.row (by decide) (by decide) (by decide) (by decide)) (fun m e => (h4 m e).1), h1, h2, fun m e => ⟨fun hm => ?_, (h4 m e).2⟩, fun g hg hm => ?_⟩, h.save.turned hst hsv, h.row.aside hst h5, h.lowR, h.bel.trans (hb.mono hw)⟩
    · rw [hstep_yes hdo]
      simp only [List.length_append, List.length_singleton]
      rw [← hR]
      exact hS7
    · rcases hN m hm with a | a
      · exact (h4 m e).1 a
      · obtain ⟨D, o, _⟩ := hT.held m e
        have := o.lt
        omega
    · rcases hN g hm with a | a
      · exact h5 g hg a
      · have := (h.row.own hg).2
        omega
theorem Sv.vault {w0 w : World} {B rb sb k n0 : Nat} {τ0 : Tab} {hd : ByteArray} {u : Value} {ds : List Cl} {st : Hst} (h : Sv w0 w B rb sb k n0 τ0 hd u ds st) : Calls Tryz.prog 20 #[.pointer (some ⟨B + 2, 0, none⟩)] w fun x w' => x = .returned (.pointer (some ⟨B, 0, none⟩)) ∧ w' = w := by
  obtain ⟨mt, mv, v, mr, nr, mark, hS, _⟩ := h.both
  exact srcVault_any _ w _ _ _ _ _ _ _ _ _ _ _ _ hS
/-- Two readers of one feed, each at its place. -/
structure Tw (w0 w : World) (B base k n0 : Nat) (τ0 : Tab) (st : Hst) (vf : Value) (rb jr xb jx : Nat) : Prop where
  all : ∃ mt mv v mr nr markr mx nx markx, Src B w (B + 2) (B + 1) B mt mv v st.ok.length st.ok.length secB st.σ st.τ st.rs ∧ TabV w rb 115 #[.pointer (some ⟨B, 0, none⟩), .int .i64 ((k + jr : Nat) : Int), .string markr, .int .i64 ((goesN st.ok k n0 jr : Nat) : Int)] mr nr (goesT st.ok k τ0 jr) ∧ TabV w xb 115 #[.pointer (some ⟨B, 0, none⟩), .int .i64 ((k + jx : Nat) : Int), .string markx, .int .i64 ((goesN st.ok k n0 jx : Nat) : Int)] mx nx (goesT st.ok k τ0 jx) ∧ nr ≤ 100 + jr ∧ nx ≤ 100 + jx ∧ markAt (k + jr) markr = headR (st.rs.take (k + jr)) ∧ markAt (k + jx) markx = headR (st.rs.take (k + jx)) ∧ (∀ m, mr = some m → m ∉ ownS (B + 2) (B + 1) B mt mv v ∧ B ≤ m ∧ mx ≠ some m) ∧ (∀ m, mx = some m → m ∉ ownS (B + 2) (B + 1) B mt mv v ∧ B ≤ m ∧ mr ≠ some m)
  ne : rb ≠ xb
  feed : w.ownsRow base 30 5 vf st.rs.length (recsL st.rs)
  lowR : B ≤ rb
  lowX : B ≤ xb
  bel : Below w0.heap.size w0 w
theorem Tw.swap {w0 w : World} {B base k n0 : Nat} {τ0 : Tab} {st : Hst} {vf : Value} {rb jr xb jx : Nat} (h : Tw w0 w B base k n0 τ0 st vf rb jr xb jx) : Tw w0 w B base k n0 τ0 st vf xb jx rb jr := by
  obtain ⟨mt, mv, v, mr, nr, markr, mx, nx, markx, a, b, c, d, e, f, g, i, j⟩ := h.all
  exact ⟨⟨mt, mv, v, mx, nx, markx, mr, nr, markr, a, c, b, e, d, g, f, j, i⟩, h.ne.symm, h.feed, h.lowX, h.lowR, h.bel⟩
theorem Tw.still {w0 w w' : World} {B base k n0 : Nat} {τ0 : Tab} {st : Hst} {vf : Value} {rb jr xb jx : Nat} (h : Tw w0 w B base k n0 τ0 st vf rb jr xb jx) (b : Below w.heap.size w w') : Tw w0 w' B base k n0 τ0 st vf rb jr xb jx := by
  obtain ⟨mt, mv, v, mr, nr, markr, mx, nx, markx, a, hr, hx, d, e, f, g, i, j⟩ := h.all
  exact ⟨⟨mt, mv, v, mr, nr, markr, mx, nx, markx, a.still b, hr.below b, hx.below b, d, e, f, g, i, j⟩, h.ne, ownsRow_below h.feed b, h.lowR, h.lowX, h.bel.trans (b.mono h.bel.size)⟩
/-- The first of them reads its next record. -/
theorem Tw.read {w0 w : World} {B base k n0 : Nat} {τ0 : Tab} {st : Hst} {vf : Value} {rb jr xb jx : Nat} (h : Tw w0 w B base k n0 τ0 st vf rb jr xb jx) (hw : w0.heap.size ≤ B) (hd : Did secB st) (T : Tabs w) (h3 : 3 < B) (hn : st.ok.length < 100) (hn0 : n0 ≤ 100) (hk : k + jr < st.ok.length) (hbr : Brief (st.ok.getD (k + jr) ev0)) :
    Calls Tryz.prog 32 #[.pointer (some ⟨rb, 0, none⟩), .agg #[.int .i64 ((st.rs.getD (k + jr) recZ).q : Int), .string (st.rs.getD (k + jr) recZ).s, .int .i64 ((st.rs.getD (k + jr) recZ).g : Int), .string (st.rs.getD (k + jr) recZ).p, .string (st.rs.getD (k + jr) recZ).d]] w fun x w' => x = .returned .nilIface ∧ Tw w0 w' B base k n0 τ0 st vf rb (jr + 1) xb jx := by
  obtain ⟨mt, mv, v, mr, nr, markr, mx, nx, markx, hS, hR, hX, h1, h2, h4, h5, h6, h7⟩ := h.all
  obtain ⟨hrl, hrecs⟩ := hd.recs
  obtain ⟨hRO, hq, hp⟩ := hrecs (k + jr) hk
  have hfit : Fit (st.rs.getD (k + jr) recZ) := hS.fit _ (getD_mem (by omega))
  obtain ⟨x, er, hx, hO⟩ := open_either hRO hfit
  have hE : (lossB st.ok (k + jr) = true ∧ er = .iface 56 (.int .i64 8)) ∨ (lossB st.ok (k + jr) = false ∧ er = .nilIface ∧ rightB x = true ∧ Brief x) := by
    rcases hx with ⟨a, b, c, d⟩ | ⟨a, b, c⟩
    · exact .inl ⟨lossB_iff.2 ⟨a, b⟩, d⟩
    · refine .inr ⟨?_, c, by rw [b]; exact hRO.right, by rw [b]; exact hbr⟩
      cases hb : lossB st.ok (k + jr)
      · rfl
      · exact absurd (lossB_iff.1 hb) a
  have hle := goesN_le st.ok k n0 jr
  refine (read_next w rb B (k + jr) (goesN st.ok k n0 jr) markr mr nr (goesT st.ok k τ0 jr) (st.rs.getD (k + jr) recZ) x er (lossB st.ok (k + jr)) hR (fun wx hb => hO _ _ _ _ _ _ _ _ _ _ _ _ (hS.still hb) (T.below hb T.k.lt)) hE (by omega) (by omega) (by omega) hq (by rw [hp, h4]) hfit T.k ?_).mono ?_
  · intro j hj
    rcases List.mem_cons.1 hj with a | a
    · have := h.lowR; omega
    · have := (h6 j (by simpa using a)).2.1; omega
  · rintro y w' ⟨rfl, mr', hT', hm, hst⟩
    have off : ∀ j ∈ ownS (B + 2) (B + 1) B mt mv v, j ∉ rb :: mr.toList := fun j hj hmem => by
      rcases List.mem_cons.1 hmem with a | a
      · exact hS.apartR hR.row (by decide) (by decide) (by decide) (by decide) (a ▸ hj)
      · exact (h6 j (by simpa using a)).1 hj
    have offX : xb ∉ rb :: mr.toList := fun hmem => by
      rcases List.mem_cons.1 hmem with a | a
      · exact h.ne a.symm
      · obtain ⟨D, o, _⟩ := hR.held xb (by simpa using a)
        exact hX.row.noMap o rfl
    have offM : ∀ m, mx = some m → m ∉ rb :: mr.toList := fun m hm hmem => by
      rcases List.mem_cons.1 hmem with a | a
      · obtain ⟨D, o, _⟩ := hX.held m hm
        exact hR.row.noMap o a.symm
      · exact (h7 m hm).2.2 (by simpa using a)
    have offF : ∀ g, vf.ownBlock = some g → g ∉ rb :: mr.toList := fun g hg hmem => by
      obtain ⟨cur, hc⟩ := ownsRow_has h.feed hg
      rcases List.mem_cons.1 hmem with a | a
      · exact hc.apartT hR.row (by decide) a
      · obtain ⟨D, o, _⟩ := hR.held g (by simpa using a)
        exact hc.noMap o rfl
    have e1 : (if lossB st.ok (k + jr) = true then goesN st.ok k n0 jr + 1 else goesN st.ok k n0 jr) = goesN st.ok k n0 (jr + 1) := rfl
    have e2 : (if lossB st.ok (k + jr) = true then goesT st.ok k τ0 jr else app x (goesT st.ok k τ0 jr)) = goesT st.ok k τ0 (jr + 1) := by
      show _ = (if lossB st.ok (k + jr) = true then goesT st.ok k τ0 jr else app (st.ok.getD (k + jr) ev0) (goesT st.ok k τ0 jr))
      rcases hx with ⟨a, b, c, d⟩ | ⟨a, b, c⟩
      · rw [if_pos (lossB_iff.2 ⟨a, b⟩), if_pos (lossB_iff.2 ⟨a, b⟩)]
      · rw [b]
    rw [e1, e2] at hT'
    have hxl := hX.row.lt
    refine ⟨rfl, ⟨mt, mv, v, mr', nr + 1, markR (st.rs.getD (k + jr) recZ), mx, nx, markx, hS.turned hst off, hT', hX.turned hst offX offM, by omega, h2, ?_, h5, fun m em => ?_, fun m em => ?_⟩, h.ne, ownsRow_turned h.feed hst offF, h.lowR, h.lowX, h.bel.trans (hst.below (Nat.le_trans hw hS.base) (fun j hj => ?_))⟩
    · rw [show k + (jr + 1) = k + jr + 1 from rfl, headR_take (by omega)]
      unfold markAt
      rw [if_neg (by omega)]
    · rcases hm with a | ⟨_, m2, a, b⟩
      · rw [a] at em
        exact h6 m em
      · rw [a] at em
        cases em
        refine ⟨fun hx => ?_, Nat.le_trans hS.base b, fun e => ?_⟩
        · have := hS.oldO _ hx
          omega
        · obtain ⟨D, o, _⟩ := hX.held _ e
          have := o.lt
          omega
    · refine ⟨(h7 m em).1, (h7 m em).2.1, fun e => ?_⟩
      rcases hm with a | ⟨_, m2, a, b⟩
      · rw [a] at e
        exact (h7 m em).2.2 e
      · rw [a] at e
        cases e
        obtain ⟨D, o, _⟩ := hX.held _ em
        have := o.lt
        omega
    · rcases List.mem_cons.1 hj with a | a
      · have := h.lowR; omega
      · have := (h6 j (by simpa using a)).2.1; omega
theorem Tw.cells {w0 w : World} {B base k n0 : Nat} {τ0 : Tab} {st : Hst} {vf : Value} {rb jr xb jx : Nat} (h : Tw w0 w B base k n0 τ0 st vf rb jr xb jx) (hj : jr ≤ 100) : Calls Tryz.prog 33 #[.pointer (some ⟨rb, 0, none⟩)] w fun x w' => ∃ u ds, x = .returned u ∧ InOrd (goesT st.ok k τ0 jr) ds ∧ ds.length ≤ 200 ∧ RowC w' w.heap.size u ds ∧ Below w.heap.size w w' := by
  obtain ⟨mt, mv, v, mr, nr, markr, mx, nx, markx, hS, hR, hX, h1, h2, h4, h5, h6, h7⟩ := h.all
  refine (rdCells_any w rb B _ _ markr mr nr _ hR (by omega)).mono ?_
  rintro x w' ⟨u, ds, a, b, c, d⟩
  exact ⟨u, ds, a, b, by omega, d⟩
theorem Tw.at {w0 w : World} {B base k n0 : Nat} {τ0 : Tab} {st : Hst} {vf : Value} {rb jr xb jx : Nat} (h : Tw w0 w B base k n0 τ0 st vf rb jr xb jx) : Calls Tryz.prog 35 #[.pointer (some ⟨rb, 0, none⟩)] w fun x w' => x = .returned (.tuple #[.int .i64 ((k + jr : Nat) : Int), .string (headR (st.rs.take (k + jr)))]) ∧ Below w.heap.size w w' := by
  obtain ⟨mt, mv, v, mr, nr, markr, mx, nx, markx, hS, hR, hX, h1, h2, h4, h5, h6, h7⟩ := h.all
  rw [← h4]
  exact at_any w rb B _ _ markr mr nr _ hR
theorem Tw.lost {w0 w : World} {B base k n0 : Nat} {τ0 : Tab} {st : Hst} {vf : Value} {rb jr xb jx : Nat} (h : Tw w0 w B base k n0 τ0 st vf rb jr xb jx) : Calls Tryz.prog 34 #[.pointer (some ⟨rb, 0, none⟩)] w fun x w' => x = .returned (.int .i64 ((goesN st.ok k n0 jr : Nat) : Int)) ∧ w' = w := by
  obtain ⟨mt, mv, v, mr, nr, markr, mx, nx, markx, hS, hR, hX, h1, h2, h4, h5, h6, h7⟩ := h.all
  exact lost_any w rb B _ _ markr mr nr _ hR
theorem Tw.scells {w0 w : World} {B base k n0 : Nat} {τ0 : Tab} {st : Hst} {vf : Value} {rb jr xb jx : Nat} (h : Tw w0 w B base k n0 τ0 st vf rb jr xb jx) (hn : st.ok.length < 100) : Calls Tryz.prog 16 #[.pointer (some ⟨B + 2, 0, none⟩)] w fun x w' => ∃ u ds, x = .returned u ∧ InOrd st.τ ds ∧ ds.length ≤ 200 ∧ RowC w' w.heap.size u ds ∧ Below w.heap.size w w' := by
  obtain ⟨mt, mv, v, mr, nr, markr, mx, nx, markx, hS, hR, hX, h1, h2, h4, h5, h6, h7⟩ := h.all
  refine (srcCells_any B w _ _ _ _ _ _ _ _ _ _ _ _ hS (by omega)).mono ?_
  rintro x w' ⟨u, ds, a, b, c, d⟩
  exact ⟨u, ds, a, b, by omega, d⟩
end Go.Proofs.YtkbaalenbpgheaaGreatDoor
