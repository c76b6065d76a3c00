/- Texts of this proof, one behind the other. -/
import Derived.Deep.DeepCutAuto
import Derived.Lib.ItoaLen
import Derived.Test.YtdjpghgnjcmdnaaGreatDoorPart34
/- Load: a reader that goes on with what one had. -/
namespace Go.Proofs.YtdjpghgnjcmdnaaGreatDoor
open Go.RowKit Go.Sort
attribute [local go_sem ↓] Go.wp_at_zero Go.wp_at_succ
set_option linter.unusedSectionVars false
variable [Inhabited Cl] [Inhabited Ev]
theorem below_grow (W : World) (q : Nat) (os : Array Obj) : Below W.heap.size W (grow (W.drewN q) os) :=
  ⟨rfl, rfl, rfl, by rw [size_grow]; exact Nat.le_add_right _ _, fun k hk => heap_grow_old (W.drewN q) os hk⟩
/-- What Load has so far. -/
structure Ld (w0 w : World) (rb pb ab vb read lost : Nat) (mark : ByteArray) (k : Nat) (τ : Tab) (a : Cl) : Prop where
  tab : ∃ mt, TabV w rb 133 #[.pointer (some ⟨vb, 0, none⟩), .int .i64 (read : Int), .string mark, .int .i64 (lost : Int)] mt k τ ∧ ∀ m, mt = some m → w0.heap.size ≤ m
  box : HasR w pb 80 #[.pointer (some ⟨rb, 0, none⟩)]
  ahead : HasR w ab 129 #[.string a.t, .string a.r, .string a.s, .string a.v]
  lowR : w0.heap.size ≤ rb
  lowP : w0.heap.size ≤ pb
  lowA : w0.heap.size ≤ ab
  bel : Below w0.heap.size w0 w
theorem Ld.still {w0 w w' : World} {rb pb ab vb read lost : Nat} {mark : ByteArray} {k : Nat} {τ : Tab} {a : Cl} (h : Ld w0 w rb pb ab vb read lost mark k τ a) (b : Below w.heap.size w w') : Ld w0 w' rb pb ab vb read lost mark k τ a := by
  obtain ⟨mt, hT, hm⟩ := h.tab
  exact ⟨⟨mt, hT.below b, hm⟩, h.box.below b h.box.lt, h.ahead.below b h.ahead.lt, h.lowR, h.lowP, h.lowA, h.bel.trans (b.mono h.bel.size)⟩
theorem geq_no (a c : Cl) (h : ltC a c = true) : ¬ (0 : Int) ≤ cmpC a c := by
  have := cmpC_lt a c
  rw [h, decide_eq_true_eq] at this
  omega
set_option maxRecDepth 100000 in
set_option maxHeartbeats 4000000 in
/-- Load's closure: a row is put. -/
theorem put1_any (w0 w : World) (rb pb ab vb read lost : Nat) (mark : ByteArray) (k : Nat) (τ : Tab) (a c : Cl) (h : Ld w0 w rb pb ab vb read lost mark k τ a) (hlt : ltC a c = true) (hr : rightB (evOfC c) = true) (hb : Brief (evOfC c)) (hk : k < 1000) :
    Calls Tryz.prog 88 #[.agg #[.string c.t, .string c.r, .string c.s, .string c.v], .pointer (some ⟨ab, 0, none⟩), .pointer (some ⟨pb, 0, none⟩)] w fun x w' => x = .returned .nilIface ∧ Ld w0 w' rb pb ab vb read lost mark (k + 1) (app (evOfC c) τ) c := by
  have bel : Below w.heap.size w (w.alloc (.cells #[.string c.t, .string c.r, .string c.s, .string c.v] 129)) := (Below.refl _ w).alloc (Nat.le_refl _) _
  have L1 := hide (h.still bel)
  have C1 := hide (HasR.new w 129 #[.string c.t, .string c.r, .string c.s, .string c.v])
  have N1 := geq_no a c hlt
  have D1 : decide ((0 : Int) ≤ cmpC a c) = false := decide_eq_false N1
  have CM := hide (fun W => compare_any a c W)
  have eo : errOf (evOfC c) = .nilIface := by unfold errOf; rw [if_pos hr]
  have AP := hide (fun W mt (hT : TabV W rb 133 #[.pointer (some ⟨vb, 0, none⟩), .int .i64 (read : Int), .string mark, .int .i64 (lost : Int)] mt k τ) => (show Calls Tryz.prog 79 #[.pointer (some ⟨rb, 4, none⟩), .agg #[.int .i64 1, .string c.s, .string c.t, .string c.r, .string c.v]] W fun x w' => x = .returned .nilIface ∧ ∃ mo', Upd W w' rb 133 #[.pointer (some ⟨vb, 0, none⟩), .int .i64 (read : Int), .string mark, .int .i64 (lost : Int)] mt mo' (k + 1) (app (evOfC c) τ) from by
    have := apply_any rb 133 #[.pointer (some ⟨vb, 0, none⟩), .int .i64 (read : Int), .string mark, .int .i64 (lost : Int)] mt (evOfC c) k τ W hb hk hT
    rw [eo] at this
    exact this))
  have PU := hide (fun W => putOf_any W c)
  have ltw := h.ahead.lt
  have l0 : w.heap.size ≤ w.heap.size := Nat.le_refl _
  have BL := hide bel
  have NA : Hid (ab ≠ w.heap.size) := hide (by omega)
  have dd : decide ((0 : Int) ≤ cmpC a c) = false := D1
  clear h hlt hr hb eo bel D1
  go_enter Tryz.func88, Tryz.ntmps88
  go_upto_region 1 with fail
  generalize w.alloc (.cells #[.string c.t, .string c.r, .string c.s, .string c.v] 129) = W1 at L1 C1 BL ⊢
  have a0 : W1.cell? ⟨ab, 0, none⟩ = some (.string a.t) := L1.out.ahead.cell 0
  have a1 : W1.cell? ⟨ab, 1, none⟩ = some (.string a.r) := L1.out.ahead.cell 1
  have a2 : W1.cell? ⟨ab, 2, none⟩ = some (.string a.s) := L1.out.ahead.cell 2
  have a3 : W1.cell? ⟨ab, 3, none⟩ = some (.string a.v) := L1.out.ahead.cell 3
  have c0 : W1.cell? ⟨w.heap.size, 0, none⟩ = some (.string c.t) := C1.out.cell 0
  have c1 : W1.cell? ⟨w.heap.size, 1, none⟩ = some (.string c.r) := C1.out.cell 1
  have c2 : W1.cell? ⟨w.heap.size, 2, none⟩ = some (.string c.s) := C1.out.cell 2
  have c3 : W1.cell? ⟨w.heap.size, 3, none⟩ = some (.string c.v) := C1.out.cell 3
  go_upto_region 4 with (
    go_at_call 89; (with_reducible refine (CM.out _).mono ?_); rintro y w2 ⟨rfl, q, os, hw2⟩
    have B2 := hide (show Below W1.heap.size W1 w2 from by rw [hw2]; exact below_grow W1 q os)
    have L2 := hide (L1.out.still B2.out)
    have C2 := hide (C1.out.below B2.out C1.out.lt)
    have d0 : w2.cell? ⟨w.heap.size, 0, none⟩ = some (.string c.t) := C2.out.cell 0
    have d1 : w2.cell? ⟨w.heap.size, 1, none⟩ = some (.string c.r) := C2.out.cell 1
    have d2 : w2.cell? ⟨w.heap.size, 2, none⟩ = some (.string c.s) := C2.out.cell 2
    have d3 : w2.cell? ⟨w.heap.size, 3, none⟩ = some (.string c.v) := C2.out.cell 3
    have g0 : w2.cell? ⟨ab, 0, none⟩ = some (.string a.t) := L2.out.ahead.cell 0
    have g1 : w2.cell? ⟨ab, 1, none⟩ = some (.string a.r) := L2.out.ahead.cell 1
    have g2 : w2.cell? ⟨ab, 2, none⟩ = some (.string a.s) := L2.out.ahead.cell 2
    have g3 : w2.cell? ⟨ab, 3, none⟩ = some (.string a.v) := L2.out.ahead.cell 3
    have f0 : w2.frozen? ⟨ab, 0, none⟩ = false := L2.out.ahead.free 0
    have f1 : w2.frozen? ⟨ab, 1, none⟩ = false := L2.out.ahead.free 1
    have f2 : w2.frozen? ⟨ab, 2, none⟩ = false := L2.out.ahead.free 2
    have f3 : w2.frozen? ⟨ab, 3, none⟩ = false := L2.out.ahead.free 3
    have na := NA.out
    have na2 := NA.out.symm
    clear hw2)
  clear a0 a1 a2 a3 c0 c1 c2 c3 d0 d1 d2 d3 g0 g1 g2 g3 f0 f1 f2 f3
  have ST := hide (stirF w2 ab (.string c.t) (.string c.r) (.string c.s) (.string c.v))
  have A4 := hide (HasR.four4 L2.out.ahead (.string c.t) (.string c.r) (.string c.s) (.string c.v))
  generalize (((w2.setCell ⟨ab, 0, none⟩ (.string c.t)).setCell ⟨ab, 1, none⟩ (.string c.r)).setCell ⟨ab, 2, none⟩ (.string c.s)).setCell ⟨ab, 3, none⟩ (.string c.v) = W4 at ST A4 ⊢
  obtain ⟨mt, hT2, hm2⟩ := L2.out.tab
  have nR : rb ∉ [ab] := fun hm => by simp at hm; exact hT2.row.apartT L2.out.ahead (by decide) hm
  have nM : ∀ m, mt = some m → m ∉ [ab] := fun m e hm => by
    obtain ⟨D, o, _⟩ := hT2.held m e
    simp at hm
    exact L2.out.ahead.noMap o hm.symm
  have nP : pb ∉ [ab] := fun hm => by simp at hm; exact L2.out.box.apartT L2.out.ahead (by decide) hm
  have T4 := hide (hT2.turned ST.out nR nM)
  have P4 := hide (L2.out.box.turned ST.out nP)
  have C4 := hide (C2.out.turned ST.out (by simp; exact na2))
  have hB4 : Below w0.heap.size w0 W4 := L2.out.bel.trans (ST.out.below L2.out.bel.size (fun j hj => by simp at hj; have := L2.out.lowA; omega))
  have L4 := hide (Ld.mk (w0 := w0) ⟨mt, T4.out, hm2⟩ P4.out A4.out L2.out.lowR L2.out.lowP L2.out.lowA hB4)
  have APD := hide (fun wx (hb : Below W4.heap.size W4 wx) => AP.out wx mt (T4.out.below hb))
  have nCR : w.heap.size ∉ rb :: mt.toList := fun hm => by
    rcases List.mem_cons.1 hm with e | e
    · exact C4.out.apartT T4.out.row (by decide) e
    · obtain ⟨D, o, _⟩ := T4.out.held w.heap.size (by simpa using e)
      exact C4.out.noMap o rfl
  have nPR : pb ∉ rb :: mt.toList := fun hm => by
    rcases List.mem_cons.1 hm with e | e
    · exact P4.out.apartT T4.out.row (by decide) e
    · obtain ⟨D, o, _⟩ := T4.out.held pb (by simpa using e)
      exact P4.out.noMap o rfl
  have nAR : ab ∉ rb :: mt.toList := fun hm => by
    rcases List.mem_cons.1 hm with e | e
    · exact A4.out.apartT T4.out.row (by decide) e
    · obtain ⟨D, o, _⟩ := T4.out.held ab (by simpa using e)
      exact A4.out.noMap o rfl
  have NCR := hide nCR
  have NPR := hide nPR
  have NAR := hide nAR
  have HM2 := hide hm2
  have LW := hide (And.intro L2.out.lowR (And.intro L2.out.lowP L2.out.lowA))
  clear hT2 hm2 nR nM nP nCR nPR nAR hB4 na na2
  have p0 : W4.cell? ⟨pb, 0, none⟩ = some (.pointer (some ⟨rb, 0, none⟩)) := P4.out.cell 0
  have c0 : W4.cell? ⟨w.heap.size, 0, none⟩ = some (.string c.t) := C4.out.cell 0
  have c1 : W4.cell? ⟨w.heap.size, 1, none⟩ = some (.string c.r) := C4.out.cell 1
  have c2 : W4.cell? ⟨w.heap.size, 2, none⟩ = some (.string c.s) := C4.out.cell 2
  have c3 : W4.cell? ⟨w.heap.size, 3, none⟩ = some (.string c.v) := C4.out.cell 3
  have BD := hide (Below.refl W4.heap.size W4).drew
  go_region_held3 (fun wx => wx.cell? ⟨pb, 0, none⟩ = some (.pointer (some ⟨rb, 0, none⟩)) ∧ wx.cell? ⟨w.heap.size, 0, none⟩ = some (.string c.t) ∧ wx.cell? ⟨w.heap.size, 1, none⟩ = some (.string c.r) ∧ wx.cell? ⟨w.heap.size, 2, none⟩ = some (.string c.s) ∧ wx.cell? ⟨w.heap.size, 3, none⟩ = some (.string c.v)) (first | (with_reducible exact K6.out) | (with_reducible exact K5.out) | go_keep)
    (first
    | (go_at_call 90; (with_reducible refine (PU.out _).mono ?_); rintro y w5 ⟨rfl, hb5⟩; have B5 := hide (BD.out.trans (hb5.mono BD.out.size)); have P5 := hide (P4.out.below B5.out P4.out.lt); have C5 := hide (C4.out.below B5.out C4.out.lt); have K5 := hide (And.intro (show w5.cell? ⟨pb, 0, none⟩ = some (.pointer (some ⟨rb, 0, none⟩)) from P5.out.cell 0) (And.intro (show w5.cell? ⟨w.heap.size, 0, none⟩ = some (.string c.t) from C5.out.cell 0) (And.intro (show w5.cell? ⟨w.heap.size, 1, none⟩ = some (.string c.r) from C5.out.cell 1) (And.intro (show w5.cell? ⟨w.heap.size, 2, none⟩ = some (.string c.s) from C5.out.cell 2) (show w5.cell? ⟨w.heap.size, 3, none⟩ = some (.string c.v) from C5.out.cell 3))))); clear hb5)
    | (go_at_call 79; (with_reducible refine (APD.out _ B5.out).mono ?_); rintro y w6 ⟨rfl, mt', hu⟩; have HU := hide hu; have P6 := hide (P5.out.turned hu.2.2 NPR.out); have C6 := hide (C5.out.turned hu.2.2 NCR.out); have K6 := hide (And.intro (show w6.cell? ⟨pb, 0, none⟩ = some (.pointer (some ⟨rb, 0, none⟩)) from P6.out.cell 0) (And.intro (show w6.cell? ⟨w.heap.size, 0, none⟩ = some (.string c.t) from C6.out.cell 0) (And.intro (show w6.cell? ⟨w.heap.size, 1, none⟩ = some (.string c.r) from C6.out.cell 1) (And.intro (show w6.cell? ⟨w.heap.size, 2, none⟩ = some (.string c.s) from C6.out.cell 2) (show w6.cell? ⟨w.heap.size, 3, none⟩ = some (.string c.v) from C6.out.cell 3))))); clear hu))
  go_wp2
  go_ret
  have L5 := L4.out.still B5.out
  obtain ⟨lR, lP, lA⟩ := LW.out
  have hs4 := L4.out.bel.size
  have hs5 := B5.out.size
  refine ⟨rfl, ⟨mt', HU.out.1, fun m e => ?_⟩, P6.out, L5.ahead.turned HU.out.2.2 NAR.out, lR, lP, lA, L5.bel.trans (HU.out.2.2.below L5.bel.size (fun j hj => ?_))⟩
  · rcases HU.out.2.1 with a1 | ⟨a1, m2, a2, a3⟩
    · exact HM2.out m (by rw [← a1]; exact e)
    · rw [a2] at e
      cases e
      omega
  · rcases List.mem_cons.1 hj with a1 | a1
    · omega
    · exact HM2.out j (by simpa using a1)
end Go.Proofs.YtdjpghgnjcmdnaaGreatDoor

/- Load: the loop over the rows. -/
namespace Go.Proofs.YtdjpghgnjcmdnaaGreatDoor
open Go.RowKit Go.Sort
attribute [local go_sem ↓] Go.wp_at_zero Go.wp_at_succ
set_option linter.unusedSectionVars false
variable [Inhabited Cl] [Inhabited Ev]
/-- The row ahead of the next one. -/
def aheadC (ds : List Cl) (j : Nat) : Cl := if j = 0 then cl0 else ds[j - 1]!
theorem aheadC_next (ds : List Cl) (j : Nat) : aheadC ds (j + 1) = ds[j]! := by
  unfold aheadC
  rw [if_neg (by omega)]
  rfl
theorem ltB_empty {b : ByteArray} (h : 1 ≤ b.size) : ltB ByteArray.empty b = true := by
  have hne : b.data.toList ≠ [] := fun e => by
    have := congrArg List.length e
    have h2 : b.data.toList.length = b.size := rfl
    rw [h2] at this
    have h3 : ([] : List UInt8).length = 0 := rfl
    omega
  unfold ltB
  rw [decide_eq_true_eq]
  have e0 : ByteArray.empty.data.toList = [] := rfl
  rw [e0]
  cases hb : b.data.toList with
  | nil => exact absurd hb hne
  | cons x l => exact List.nil_lt_cons x l
theorem put_named {c : Cl} (h : rightB (evOfC c) = true) : 1 ≤ c.t.size := by
  unfold rightB bodyB evOfC at h
  simp at h
  have h2 := h.2.1
  unfold rowNB at h2
  simp at h2
  exact name_size h2.1
theorem ahead_lt {τ : Tab} {ds : List Cl} {j : Nat} (h : InOrd τ ds) (hr : ∀ c ∈ ds, rightB (evOfC c) = true) (hj : j < ds.length) : ltC (aheadC ds j) ds[j]! = true := by
  rw [getElem!_pos ds j hj]
  unfold aheadC
  split
  · have h1 := put_named (hr _ (List.getElem_mem hj))
    rw [ltC_iff]
    exact .inl (ltB_empty h1)
  · rw [getElem!_pos ds (j - 1) (by omega)]
    exact List.pairwise_iff_getElem.1 h.1 (j - 1) j (by omega) hj (by omega)
theorem take_snoc1 (ds : List Cl) (k : Nat) (h : k < ds.length) : ds.take (k + 1) = ds.take k ++ [ds[k]!] := by
  rw [List.take_succ_eq_append_getElem h, getElem!_pos ds k h]
set_option maxRecDepth 100000 in
set_option maxHeartbeats 4000000 in
/-- Load, of what may be. -/
theorem load_any (w : World) (vb read lost : Nat) (mark : ByteArray) (p : Option Addr) (cap b0 : Nat) (ds : List Cl) (τ : Tab) (hrow : RowC w b0 (.slice p ds.length cap) ds) (hord : InOrd τ ds) (hr : ∀ c ∈ ds, rightB (evOfC c) = true) (hbr : ∀ c ∈ ds, Brief (evOfC c)) (hlen : ds.length ≤ 100) (hl : lost ≤ read) (hm : mark.size = 16) (h0 : read = 0 → mark = noneB ∧ ds.length = 0) :
    Calls Tryz.prog 55 #[.pointer (some ⟨vb, 0, none⟩), .agg #[.int .i64 (read : Int), .string mark, .slice p ds.length cap, .int .i64 (lost : Int)]] w fun x w' => ∃ xb mt, x = .returned (.tuple #[.pointer (some ⟨xb, 0, none⟩), .nilIface]) ∧ TabV w' xb 133 #[.pointer (some ⟨vb, 0, none⟩), .int .i64 (read : Int), .string mark, .int .i64 (lost : Int)] mt ds.length τ ∧ w.heap.size ≤ xb ∧ (∀ m, mt = some m → w.heap.size ≤ m) ∧ Below w.heap.size w w' := by
  have bel : Below w.heap.size w (w.alloc (.cells #[.int .i64 (read : Int), .string mark, .slice p ds.length cap, .int .i64 (lost : Int)] 32)) := (Below.refl _ w).alloc (Nat.le_refl _) _
  have E0 := hide (HasR.new w 32 #[.int .i64 (read : Int), .string mark, .slice p ds.length cap, .int .i64 (lost : Int)])
  have CF := hide (fun wx => counts_any wx read lost mark p ds.length cap hl hm)
  have BF := hide (fun wx => begins_any wx read lost mark p ds.length cap h0)
  have HR := hide hrow
  have HO := hide hord
  have HRR := hide hr
  have HBR := hide hbr
  have BL := hide bel
  have hq := ptrV_nil vb
  have hne := nilNe
  clear hrow hord hr hbr bel hm h0
  go_enter Tryz.func55, Tryz.ntmps55
  go_upto_region 3 with fail
  generalize w.alloc (.cells #[.int .i64 (read : Int), .string mark, .slice p ds.length cap, .int .i64 (lost : Int)] 32) = W1 at E0 BL ⊢
  have e0 : W1.cell? ⟨w.heap.size, 0, none⟩ = some (.int .i64 (read : Int)) := E0.out.cell 0
  have e1 : W1.cell? ⟨w.heap.size, 1, none⟩ = some (.string mark) := E0.out.cell 1
  have e2 : W1.cell? ⟨w.heap.size, 2, none⟩ = some (.slice p ds.length cap) := E0.out.cell 2
  have e3 : W1.cell? ⟨w.heap.size, 3, none⟩ = some (.int .i64 (lost : Int)) := E0.out.cell 3
  go_upto_region 8 with (first
    | (go_at_call 86; (with_reducible refine (CF.out _).mono ?_); rintro y w2 ⟨rfl, hb2⟩
       have B2 := hide (BL.out.trans (hb2.mono BL.out.size))
       have E2 := hide (E0.out.below hb2 E0.out.lt)
       have f0 : w2.cell? ⟨w.heap.size, 0, none⟩ = some (.int .i64 (read : Int)) := E2.out.cell 0
       have f1 : w2.cell? ⟨w.heap.size, 1, none⟩ = some (.string mark) := E2.out.cell 1
       have f2 : w2.cell? ⟨w.heap.size, 2, none⟩ = some (.slice p ds.length cap) := E2.out.cell 2
       have f3 : w2.cell? ⟨w.heap.size, 3, none⟩ = some (.int .i64 (lost : Int)) := E2.out.cell 3
       clear hb2)
    | (go_at_call 87; (with_reducible refine (BF.out _).mono ?_); rintro y w3 ⟨rfl, hb3⟩
       have B3 := hide (B2.out.trans (hb3.mono B2.out.size))
       have E3 := hide (E2.out.below hb3 E2.out.lt)
       have g0 : w3.cell? ⟨w.heap.size, 0, none⟩ = some (.int .i64 (read : Int)) := E3.out.cell 0
       have g1 : w3.cell? ⟨w.heap.size, 1, none⟩ = some (.string mark) := E3.out.cell 1
       have g2 : w3.cell? ⟨w.heap.size, 2, none⟩ = some (.slice p ds.length cap) := E3.out.cell 2
       have g3 : w3.cell? ⟨w.heap.size, 3, none⟩ = some (.int .i64 (lost : Int)) := E3.out.cell 3
       have lw3 := E3.out.lt
       clear hb3))
  clear e0 e1 e2 e3 f0 f1 f2 f3 g0 g1 g2 g3
  have Z := hide ((((Below.refl _ w3).alloc (Nat.le_refl _) (.cells #[.pointer (some ⟨vb, 0, none⟩), .int .i64 (read : Int), .string mark, .int .i64 (lost : Int), .map none] 133)).alloc (by simp) (.cells #[.pointer (some ⟨w3.heap.size, 0, none⟩)] 80)).alloc (by simp; omega) (.cells #[.string ⟨#[]⟩, .string ⟨#[]⟩, .string ⟨#[]⟩, .string ⟨#[]⟩] 129))
  have X1 := hide (((HasR.new w3 133 #[.pointer (some ⟨vb, 0, none⟩), .int .i64 (read : Int), .string mark, .int .i64 (lost : Int), .map none]).alloc (.cells #[.pointer (some ⟨w3.heap.size, 0, none⟩)] 80)).alloc (.cells #[.string ⟨#[]⟩, .string ⟨#[]⟩, .string ⟨#[]⟩, .string ⟨#[]⟩] 129))
  have X2 := HasR.new (w3.alloc (.cells #[.pointer (some ⟨vb, 0, none⟩), .int .i64 (read : Int), .string mark, .int .i64 (lost : Int), .map none] 133)) 80 #[.pointer (some ⟨w3.heap.size, 0, none⟩)]
  have X3 := HasR.new ((w3.alloc (.cells #[.pointer (some ⟨vb, 0, none⟩), .int .i64 (read : Int), .string mark, .int .i64 (lost : Int), .map none] 133)).alloc (.cells #[.pointer (some ⟨w3.heap.size, 0, none⟩)] 80)) 129 #[.string ⟨#[]⟩, .string ⟨#[]⟩, .string ⟨#[]⟩, .string ⟨#[]⟩]
  have X2 := X2.alloc (.cells #[.string ⟨#[]⟩, .string ⟨#[]⟩, .string ⟨#[]⟩, .string ⟨#[]⟩] 129)
  rw [World.size_alloc] at X2
  rw [World.size_alloc, World.size_alloc] at X3
  have H2 := hide X2
  have H3 := hide X3
  clear X2 X3
  generalize ((w3.alloc (.cells #[.pointer (some ⟨vb, 0, none⟩), .int .i64 (read : Int), .string mark, .int .i64 (lost : Int), .map none] 133)).alloc (.cells #[.pointer (some ⟨w3.heap.size, 0, none⟩)] 80)).alloc (.cells #[.string ⟨#[]⟩, .string ⟨#[]⟩, .string ⟨#[]⟩, .string ⟨#[]⟩] 129) = W6 at Z X1 H2 H3 ⊢
  have hs3 := B3.out.size
  have B6 := hide (B3.out.trans (Z.out.mono hs3))
  have L0 := hide (Ld.mk (w0 := w) (k := 0) (τ := tab0) (a := cl0) (lost := lost) (mark := mark) (read := read) ⟨none, ⟨X1.out, fun _ => rfl, (fun m e => by cases e)⟩, (fun m e => by cases e)⟩ H2.out H3.out hs3 (by omega) (by omega) B6.out)
  have E6 := hide (E3.out.below Z.out lw3)
  have R6 := hide ((HR.out.below (B6.out) (Nat.le_refl _)))
  have q2 : W6.cell? ⟨w.heap.size, 2, none⟩ = some (.slice p ds.length cap) := E6.out.cell 2
  clear Z X1 H2 H3 CF BF E0 E2 E3 BL B2 B3
  go_wp2
  go_loopw [37] (fun i wr => ∃ j : Nat, i = .int .i64 j ∧ j ≤ ds.length ∧ Ld w wr w3.heap.size (w3.heap.size + 1) (w3.heap.size + 1 + 1) vb read lost mark j (putsT (ds.take j)) (aheadC ds j)) (fun i _ => ds.length - (intOf i).toNat)
  case atStart => exact ⟨0, rfl, Nat.zero_le _, L0.out⟩
  case round =>
    clear L0 q2
    obtain ⟨j, rfl, hj, hI⟩ := hrel
    have L := hide hI
    clear hI
    by_cases hlt : j < ds.length
    · obtain ⟨g, rfl, hg, hcap, c0, c1, c2, c3⟩ := (HR.out.below L.out.bel (Nat.le_refl _)).at hlt
      have hmem : ds[j]! ∈ ds := by rw [getElem!_pos ds j hlt]; exact List.getElem_mem hlt
      have Z := (Below.refl _ wr).alloc (Nat.le_refl _) (.cells #[.string ds[j]!.t, .string ds[j]!.r, .string ds[j]!.s, .string ds[j]!.v] 129)
      have PT := hide (put1_any w _ _ _ _ _ _ _ _ j _ (aheadC ds j) ds[j]! (L.out.still Z) (ahead_lt HO.out HRR.out hlt) (HRR.out _ hmem) (HBR.out _ hmem) (by omega))
      have HT := hide (putsT_snoc (ds.take j) ds[j]!)
      have HTK := hide (take_snoc1 ds j hlt)
      have HAN := hide (aheadC_next ds j)
      have i1 : (j : Int) < (ds.length : Int) := by omega
      clear Z hmem
      have eg : ∀ args w, (callFunc 88 args).run Tryz.prog w = .ok (.enter 88 args) w := enters_of Tryz.func88 (by kernel_rfl) rfl
      generalize ds[j]! = c at c0 c1 c2 c3 PT HT HTK HAN
      go_wp2_with (go_at_fn 88; (with_reducible refine PT.out.mono ?_); rintro y w7 ⟨rfl, hL7⟩; have L7 := hide hL7; clear hL7)
      exact ⟨⟨j + 1, by go_num, by omega, by rw [HTK.out, HT.out, HAN.out]; exact L7.out⟩, by simp [intOf]; omega⟩
    · have ej : j = ds.length := by omega
      subst ej
      rw [List.take_length, putsT_eq HO.out HRR.out] at L
      have pb0 : wr.cell? ⟨w3.heap.size + 1, 0, none⟩ = some (.pointer (some ⟨w3.heap.size, 0, none⟩)) := L.out.box.cell 0
      go_wp2
      go_ret2
      obtain ⟨mt, hT, hm⟩ := L.out.tab
      exact ⟨w3.heap.size, mt, rfl, hT, hs3, hm, L.out.bel⟩
end Go.Proofs.YtdjpghgnjcmdnaaGreatDoor

/- Rows, each as one word. -/
namespace Go.Proofs.YtdjpghgnjcmdnaaGreatDoor
open Go.RowKit Go.Shelf Go.Sort Go.Maps
set_option linter.unusedSectionVars false
variable [Inhabited LowT]
variable [Inhabited Cl] [Inhabited Ev]
attribute [local go_sem ↓] Go.wp_at_zero Go.wp_at_succ
theorem blank_first : ∀ l : List UInt8, noB l ∨ ∃ a b, l = a ++ 32 :: b ∧ noB a
  | [] => .inl (fun c h => by cases h)
  | c :: l => by
    by_cases hc : c = 32
    · subst hc
      exact .inr ⟨[], l, rfl, fun c h => by cases h⟩
    · rcases blank_first l with h | ⟨a, b, rfl, h⟩
      · refine .inl (fun d hd => ?_)
        rcases List.mem_cons.1 hd with rfl | hd
        · exact hc
        · exact h d hd
      · refine .inr ⟨c :: a, b, rfl, fun d hd => ?_⟩
        rcases List.mem_cons.1 hd with rfl | hd
        · exact hc
        · exact h d hd
theorem under_no {l : List UInt8} (h : noB l) : underL l = l := by
  unfold underL
  exact (List.map_congr_left (g := id) (fun c hc => if_neg (h c hc))).trans (List.map_id l)
theorem under_app (a b : List UInt8) : underL (a ++ 32 :: b) = underL a ++ 95 :: underL b := by
  simp [underL]
theorem replace_under : ∀ (n : Nat) (l : List UInt8), l.length ≤ n → Lib.replaceK [32] [95] (Lib.count l [32]) l = underL l
  | n, l, hn => by
    rcases blank_first l with h | ⟨a, b, rfl, h⟩
    · rw [count_end h, Lib.replaceK, under_no h]
    · cases n with
      | zero => simp at hn
      | succ n =>
        have hb : b.length ≤ n := by
          simp only [List.length_append, List.length_cons] at hn
          omega
        rw [count_hit1 b h, Lib.replaceK_hit _ _ _ _ a.length (index_hit b h), under_app, under_no h, List.take_left]
        have e : (a ++ 32 :: b).drop (a.length + ([32] : List UInt8).length) = b := by
          rw [show a ++ 32 :: b = (a ++ [32]) ++ b by simp, show a.length + ([32] : List UInt8).length = (a ++ [32]).length by simp, List.drop_left]
        rw [e, replace_under n b hb]
        simp
theorem replaceAll_under (l : List UInt8) : Lib.replaceAll l [32] [95] = underL l := by
  unfold Lib.replaceAll Lib.replace
  rw [if_neg (by decide)]
  have e : Lib.replaceNum l [32] (-1) = Lib.count l [32] := by
    unfold Lib.replaceNum
    rw [if_pos (.inl (by decide))]
  rw [e, replace_under l.length l (Nat.le_refl _)]
theorem under_len (l : List UInt8) : (underL l).length = l.length := by simp [underL]
theorem count_le1 : ∀ (n : Nat) (l : List UInt8), l.length ≤ n → Lib.count l [32] ≤ l.length
  | n, l, hn => by
    rcases blank_first l with h | ⟨a, b, rfl, h⟩
    · rw [count_end h]
      omega
    · cases n with
      | zero => simp at hn
      | succ n =>
        have hb : b.length ≤ n := by
          simp only [List.length_append, List.length_cons] at hn
          omega
        rw [count_hit1 b h]
        have := count_le1 n b hb
        simp only [List.length_append, List.length_cons]
        omega
theorem replace_any (s : ByteArray) (hs : s.size ≤ 1000) (w : World) (hM : TabM w) : Calls Tryz.prog 80 #[.string s, .string ⟨#[32]⟩, .string ⟨#[95]⟩] w fun e w' => e = .returned (.string (textL (underL s.data.toList))) ∧ Below w.heap.size w w' := by
  obtain ⟨m, hm⟩ := hM
  have hc : Lib.countB s ⟨#[32]⟩ ≤ 1000 := by
    have h1 := count_le1 _ s.data.toList (Nat.le_refl _)
    have h2 : s.data.toList.length = s.size := by simp
    have h3 : Lib.countB s ⟨#[32]⟩ = Lib.count s.data.toList [32] := rfl
    omega
  have c := Any.strings_ReplaceAll dLays155 dExtra155 s ⟨#[32]⟩ ⟨#[95]⟩ m w (by omega) hm (by decide) (by
    show s.size + Lib.countB s ⟨#[32]⟩ * 1 ≤ _
    omega)
  refine c.mono ?_
  rintro e w' ⟨rfl, hb⟩
  refine ⟨?_, hb⟩
  show Ending.returned (.string ⟨(Lib.replaceAll s.data.toList [32] [95]).toArray⟩) = _
  rw [replaceAll_under]
  rfl
def wordC (c : Cl) : ByteArray := textL (rowL c)
theorem textL_cat (a b : List UInt8) : textL a ++ textL b = textL (a ++ b) := by
  apply ByteArray.ext
  simp [textL, ByteArray.data_append]
theorem textL_data (b : ByteArray) : textL b.data.toList = b := by
  cases b
  simp [textL]
theorem wordC_is (c : Cl) : c.t ++ ⟨#[46]⟩ ++ c.r ++ ⟨#[58]⟩ ++ c.s ++ ⟨#[61]⟩ ++ textL (underL c.v.data.toList) = wordC c := by
  unfold wordC rowL
  rw [← textL_data c.t, ← textL_data c.r, ← textL_data c.s, show (⟨#[46]⟩ : ByteArray) = textL [46] from rfl, show (⟨#[58]⟩ : ByteArray) = textL [58] from rfl, show (⟨#[61]⟩ : ByteArray) = textL [61] from rfl]
  simp only [textL_cat]
  congr 1
  simp [textL]
theorem wordC_size {c : Cl} (h : rightB (evOfC c) = true) : (wordC c).size ≤ 60 := by
  have hb := right_kinds h
  obtain ⟨h1, h2⟩ := hb
  have k1 : (evOfC c).k = 1 := rfl
  rcases h2 with ⟨_, a, b, d⟩ | ⟨e, _⟩ | ⟨e, _⟩
  · have z1 := nameB_len (s := c.s) h1
    have z2 := nameB_len (s := c.t) a
    have z3 := nameB_len (s := c.r) b
    have z4 : c.v.data.toList.length ≤ 20 := by
      have d2 : valB c.v.data.toList = true := d
      unfold valB at d2
      simp at d2
      simpa using d2.1
    have t1 : c.s.data.toList.length = c.s.size := by simp
    have t2 : c.t.data.toList.length = c.t.size := by simp
    have t3 : c.r.data.toList.length = c.r.size := by simp
    have e1 : (wordC c).size = (rowL c).length := rfl
    rw [e1]
    unfold rowL
    simp only [List.length_append, List.length_cons, under_len]
    omega
  · rw [k1] at e; omega
  · rw [k1] at e; omega
section
/-- What the loop has so far. -/
def rowsV (w0 wr : World) (o : Value) (j : Nat) (ds : List Cl) : Prop := wr.ownsRow w0.heap.size 9 1 o j ((ds.take j).map fun c => Value.string (wordC c)) ∧ Below w0.heap.size w0 wr
theorem parts_of_row {w : World} {base n : Nat} {v : Value} {ps : List ByteArray} (h : w.ownsRow base 9 1 v n (ps.map Value.string)) (hn : n = ps.length) : Parts w v ps := by
  subst hn
  cases ps with
  | nil =>
    rcases h.2 with ⟨e1, e0⟩ | ⟨g, cap', cur, e1, _⟩
    · exact ⟨none, 0, e1, .inl rfl⟩
    · exact ⟨_, _, e1, .inl rfl⟩
  | cons p ps =>
    rcases h.2 with ⟨e1, e0⟩ | ⟨g, cap', cur, e1, hb, hg, a1, _⟩
    · simp at e0
    · refine ⟨_, _, e1, .inr ⟨g, 0, rfl, lt_of_block hg, fun k hk => ?_⟩⟩
      subst e1
      have h3 := World.ownsRow.cellAt h k (by simpa using hk)
      rw [Nat.zero_add, h3, List.getElem?_map, List.getD_eq_getElem?_getD, List.getElem?_eq_getElem hk]
      rfl
set_option maxRecDepth 100000 in
set_option maxHeartbeats 2000000 in
theorem written_any (w : World) (p : Option Addr) (cap b0 : Nat) (ds : List Cl) (hrow : RowC w b0 (.slice p ds.length cap) ds) (hr : ∀ c ∈ ds, rightB (evOfC c) = true) (hlen : ds.length ≤ 100) (hM : TabM w) :
    Calls Tryz.prog 44 #[.slice p ds.length cap] w fun e w' => ∃ u, e = .returned u ∧ Parts w' u (ds.map wordC) ∧ Below w.heap.size w w' := by
  have HR := hide hrow
  have HRR := hide hr
  have HM := hide hM
  have hM6 := hM.lt
  have O0 := hide (And.intro (World.ownsRow_nil w w.heap.size 9 1) (Below.refl w.heap.size w))
  clear hrow hr hM
  go_enter Tryz.func44, Tryz.ntmps44
  go_wp2
  go_loopw [3, 9] (fun o i wr => ∃ j : Nat, i = .int .i64 j ∧ j ≤ ds.length ∧ rowsV w wr o j ds) (fun _ i _ => ds.length - (intOf i).toNat)
  case atStart => exact ⟨0, rfl, Nat.zero_le _, O0.out⟩
  case round =>
    clear O0
    obtain ⟨j, rfl, hj, hI⟩ := hrel
    have OW := hide hI.1
    have BL := hide hI.2
    clear hI
    by_cases hlt : j < ds.length
    · obtain ⟨g, rfl, hg, hcap, c0, c1, c2, c3⟩ := (HR.out.below BL.out (Nat.le_refl _)).at hlt
      have hmem : ds[j]! ∈ ds := by rw [getElem!_pos ds j hlt]; exact List.getElem_mem hlt
      have HTK := hide (take_snoc1 ds j hlt)
      have WC := hide (wordC_is ds[j]!)
      have hrj := HRR.out _ hmem
      have hbf := brief_right hrj
      have z1 : ds[j]!.t.size ≤ 60 := hbf.t
      have z2 : ds[j]!.r.size ≤ 60 := hbf.r
      have z3 : ds[j]!.s.size ≤ 60 := hbf.s
      have z4 : ds[j]!.v.size ≤ 60 := hbf.v
      have z5 : (textL (underL ds[j]!.v.data.toList)).size ≤ 60 := by
        have e1 : (textL (underL ds[j]!.v.data.toList)).size = (underL ds[j]!.v.data.toList).length := rfl
        have e2 : ds[j]!.v.data.toList.length = ds[j]!.v.size := by simp
        rw [e1, under_len]
        omega
      have i1 : (j : Int) < (ds.length : Int) := by omega
      clear hmem hrj hbf
      generalize ds[j]! = c at c0 c1 c2 c3 HTK WC z1 z2 z3 z4 z5
      have RP := hide (fun wx (hb : Below w.heap.size w wx) => replace_any c.v (by omega) wx (HM.out.below hb hM6))
      have X0 := hide (HasR.new wr 129 #[.string c.t, .string c.r, .string c.s, .string c.v])
      have B0 := hide ((Below.refl _ wr).alloc (Nat.le_refl _) (.cells #[.string c.t, .string c.r, .string c.s, .string c.v] 129))
      generalize textL (underL c.v.data.toList) = uv at RP WC z5
      go_wp2_with (first
        | (go_at_call 80; (with_reducible refine (RP.out _ (BL.out.trans (B0.out.mono BL.out.size))).mono ?_); rintro y w7 ⟨rfl, hb7⟩; have B7 := hide (B0.out.trans (hb7.mono B0.out.size)); have X7 := X0.out.below hb7 X0.out.lt; have y0 : w7.cell? ⟨wr.heap.size, 0, none⟩ = some (.string c.t) := X7.cell 0; have y1 : w7.cell? ⟨wr.heap.size, 1, none⟩ = some (.string c.r) := X7.cell 1; have y2 : w7.cell? ⟨wr.heap.size, 2, none⟩ = some (.string c.s) := X7.cell 2; clear hb7 X7)
        | (at_builtin; refine app_strs rfl _ _ rfl w.heap.size _ j _ rfl (ownsRow_below OW.out (B7.out.alloc B7.out.size _)) _ [_] rfl (parts_one w7.heap.size _ (HasR.new w7 9 _)) (by simp; omega) (by have := BL.out.size; have := B7.out.size; simp; omega) ?_; intro v' w2 hown' hg2; have O2 := hide hown'; have G2 := hide hg2; clear hown' hg2; go_frame))
      have bW : Below w.heap.size w w2 := ((BL.out.trans (B7.out.mono BL.out.size)).alloc (Nat.le_trans BL.out.size B7.out.size) _).grown G2.out (by have := BL.out.size; have := B7.out.size; simp; omega) (fun k hk => (OW.out.lt k hk).1)
      have e2 : ((ds.take j).map fun c => Value.string (wordC c)) ++ [c.t ++ ⟨#[46]⟩ ++ c.r ++ ⟨#[58]⟩ ++ c.s ++ ⟨#[61]⟩ ++ uv].map Value.string = (ds.take (j + 1)).map fun c => Value.string (wordC c) := by
        rw [WC.out, HTK.out, List.map_append]
        rfl
      have O3 := O2.out
      rw [e2] at O3
      first
        | exact ⟨⟨j + 1, by go_num, by omega, O3, bW⟩, by simp [intOf]; omega⟩
        | ((repeat apply Exists.intro); exact ⟨⟨⟨j + 1, by go_num, by omega, O3, bW⟩, rfl⟩, by simp [intOf]; omega⟩)
    · have ej : j = ds.length := by omega
      subst ej
      have O2 := OW.out
      rw [List.take_length] at O2
      have PT := parts_of_row (ps := ds.map wordC) (by rw [List.map_map]; exact O2) (by simp)
      go_wp2
      go_ret
      exact ⟨_, rfl, PT, BL.out⟩
end
end Go.Proofs.YtdjpghgnjcmdnaaGreatDoor

/- An order's line in its own box; how long what is told is. -/
namespace Go.Proofs.YtdjpghgnjcmdnaaGreatDoor
open Go.RowKit Go.Shelf Go.Sort Go.Maps
set_option linter.unusedSectionVars false
variable [Inhabited LowT]
variable [Inhabited Cl] [Inhabited Ev]
theorem told_len {x : ByteArray} {ps : List ByteArray} {m : Nat} (h : ∀ p ∈ ps, p.size ≤ m) : (toldL x ps).length ≤ x.size + ps.length * (m + 1) := by
  unfold toldL
  have key : ∀ (qs : List (List UInt8)) (a : List UInt8), (∀ q ∈ qs, q.length ≤ m) → (Lib.join (a :: qs) [32]).length ≤ a.length + qs.length * (m + 1) := by
    intro qs
    induction qs with
    | nil => intro a _; simp [Lib.join]
    | cons q qs ih =>
      intro a hq
      have h1 := ih q (fun r hr => hq r (List.mem_cons_of_mem _ hr))
      have h2 := hq q (List.mem_cons_self ..)
      have h3 : (q :: qs).length * (m + 1) = qs.length * (m + 1) + (m + 1) := by
        rw [List.length_cons, Nat.succ_mul]
      have h4 : (Lib.join (a :: q :: qs) [32]).length = a.length + 1 + (Lib.join (q :: qs) [32]).length := by
        simp [Lib.join]
        try omega
      rw [h4, h3]
      omega
  have h1 := key (ps.map (·.data.toList)) x.data.toList (by
    intro q hq
    obtain ⟨p, hp, rfl⟩ := List.mem_map.1 hq
    have h2 := h p hp
    simpa using h2)
  have h2 : x.data.toList.length = x.size := by simp
  rw [List.length_map, h2] at h1
  exact h1
/-- The line as it lies in its box. -/
def lineO (x : ByteArray) (v : Value) (z : Int) : Obj := .cells #[.string x, v, .int .i64 z] 65
section
variable {κ : Nat → Tag} {db : Nat} {s : DeskS} {w w' : World} {B ob sb fb vb : Nat} {mt mv : Option Nat} {v : Value} {rm : Nat} {ρ : Rho} {c3 c4 c5 c6 : Value}
/-- Nothing of the desk's was turned. -/
theorem DeskV.same (h : DeskV κ db s w B ob sb fb vb mt mv v rm ρ c3 c4 c5 c6) {w2 : World} (hb : Below w.heap.size w w2) : Desk db s w2 := ⟨κ, B, ob, sb, fb, vb, mt, mv, v, rm, ρ, c3, c4, c5, c6, h.still hb⟩
theorem told_fits {x : ByteArray} {ps : List ByteArray} {m : Nat} (h : ∀ p ∈ ps, p.size ≤ m) (hx : x.size ≤ 30000) (hm : ps.length * (m + 1) ≤ 90000000) : (toldL x ps).length ≤ 100000000 := by
  have := told_len (x := x) h
  omega
/-- The first word behind. -/
theorem firstW {w : World} {p : Option Addr} {xs : List ByteArray} {cp : Nat} (h : Parts w (.slice p xs.length cp) xs) (h1 : 1 ≤ xs.length) : ∃ g off, p = some ⟨g, off, none⟩ ∧ g < w.heap.size ∧ w.cell? ⟨g, off, none⟩ = some (.string (at_ xs 0)) := by
  obtain ⟨ao, cap, e, hP⟩ := h
  cases e
  rcases hP with rfl | ⟨g, off, rfl, hg, hc⟩
  · simp at h1
  · exact ⟨g, off, rfl, hg, hc 0 (by omega)⟩
theorem at_size {xs : List ByteArray} {m i : Nat} (h : ∀ y ∈ xs, y.size ≤ m) : (at_ xs i).size ≤ m := by
  unfold at_
  by_cases hi : i < xs.length
  · rw [List.getD_eq_getElem?_getD, List.getElem?_eq_getElem hi]
    exact h _ (List.getElem_mem hi)
  · rw [List.getD_eq_getElem?_getD, List.getElem?_eq_none (by omega)]
    exact Nat.zero_le _
theorem cell_noMap {k : TypeId} {R : Value → Option (DataW Unit × List MemPlace)} {b m n : Nat} {o : Nat} {D : DataW Unit} {u : Value} (h : w.cell? ⟨b, o, none⟩ = some u) (ho : w.ownsMap Tryz.prog k R m n D) : b ≠ m := by
  rintro rfl
  obtain ⟨es, clock, hh, _⟩ := ho
  unfold World.cell? at h
  simp only [hh] at h
  cases h
/-- A reader that was named, as it lies. -/
theorem DeskV.tab {x : ByteArray} {r : RdS} (h : DeskV κ db (setR s x r) w B ob sb fb vb mt mv v rm ρ c3 c4 c5 c6) {rb : Nat} {m : Option Nat} (hx : ρ x = some (rb, m)) : ∃ n, n ≤ r.q ∧ TabV w rb 133 #[.pointer (some ⟨vb, 0, Option.none⟩), .int .i64 (r.q : Int), .string r.m, .int .i64 (r.lost : Int)] m n r.τ := by
  obtain ⟨q, n, h1, h2, h3⟩ := h.each x rb m hx
  have e : q = r := by
    unfold setR at h1
    simp at h1
    exact h1.symm
  subst e
  exact ⟨n, h2, h3⟩
theorem Vars.tabs {w : World} (h : Vars w) : Tabs w := ⟨h.k, h.l, h.m, h.e, Nat.lt_of_lt_of_le (Nat.lt_of_lt_of_le (by omega) lowK_le) h.n⟩
theorem DeskV.rmOwned : Owned db ob sb fb vb mt mv v rm ρ c5 rm := .inr (.inr (.inr (.inl rfl)))
theorem DeskV.quietM (h : DeskV κ db s w B ob sb fb vb mt mv v rm ρ c3 c4 c5 c6) (t : Stirred [rm] w w') (h11 : lowK ≤ w.heap.size) : Quiet w w' :=
  h.quiet t (fun j hj => .inl (by have e : j = rm := by simpa using hj
                                  rw [e]
                                  exact DeskV.rmOwned)) h11
theorem DeskV.rm_ne (h : DeskV κ db s w B ob sb fb vb mt mv v rm ρ c3 c4 c5 c6) {j : Nat} (hj : κ j ≠ .inl 3) : j ∉ [rm] := fun hm => by
  have e : j = rm := by simpa using hm
  exact hj (by rw [e]; exact h.kM)
theorem DeskV.rm_old (h : DeskV κ db s w B ob sb fb vb mt mv v rm ρ c3 c4 c5 c6) {j : Nat} (hj : w.heap.size ≤ j) : j ∉ [rm] := fun hm => by
  have e : j = rm := by simpa using hm
  have := h.old (j := rm) DeskV.rmOwned
  omega
theorem DeskV.rm_cell (h : DeskV κ db s w B ob sb fb vb mt mv v rm ρ c3 c4 c5 c6) {b o : Nat} {u : Value} (hc : w.cell? ⟨b, o, Option.none⟩ = some u) : b ∉ [rm] := fun hm => by
  have e : b = rm := by simpa using hm
  obtain ⟨D, n, _, h2, _⟩ := h.rds
  exact cell_noMap hc h2 e
end
/-- A number told. -/
theorem itoaN_le (n : Nat) (h : n ≤ 1000000000) : (itoaN n).length ≤ 21 := Lib.itoa_length_le _ (by omega) (by omega)
theorem itoaN_any (n : Nat) (h : n ≤ 1000000000) (w : World) (hP : Pow w) : Calls Tryz.prog 13 #[.int .i64 (n : Int)] w fun e w' => e = .returned (.string (textL (itoaN n))) ∧ Below w.heap.size w w' := itoa_any (n : Int) (by unfold small64; omega) w hP
end Go.Proofs.YtdjpghgnjcmdnaaGreatDoor
