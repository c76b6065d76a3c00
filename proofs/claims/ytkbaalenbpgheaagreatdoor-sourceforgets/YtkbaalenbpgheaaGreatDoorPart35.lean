/- Texts of this proof, one behind the other. -/
import Derived.BigQuiet
import Derived.Deep.DeepCutAuto
import Derived.Test.YtkbaalenbpgheaaGreatDoorPart34
/- What was told is read: the law's own walk. -/
namespace Go.Proofs.YtkbaalenbpgheaaGreatDoor
open Go.RowKit Go.Sort
attribute [local go_sem ↓] Go.wp_at_zero Go.wp_at_succ
set_option linter.unusedSectionVars false
variable [Inhabited Cl] [Inhabited Ev]
/-- What the loop has: the place, the box of what was done, the source, its records. -/
structure Fb (w0 w : World) (B : Nat) (st : Hst) (I k bo : Nat) (vok vrows : Value) (vals : List Value) (base : Nat) (vf : Value) : Prop where
  i : HasR w I 3 #[.int .i64 k]
  box : HasR w bo 22 #[vok]
  dn : Dn B w st.σ st.τ st.rs st.ok.length st.ok vok vrows vals
  fd : w.ownsRow base 30 5 vf st.ok.length (recsL st.rs)
  bel : Below w0.heap.size w0 w
theorem Fb.still {w0 w w' : World} {B : Nat} {st : Hst} {I k bo : Nat} {vok vrows : Value} {vals : List Value} {base : Nat} {vf : Value} (h : Fb w0 w B st I k bo vok vrows vals base vf) (b : Below w.heap.size w w') : Fb w0 w' B st I k bo vok vrows vals base vf :=
  ⟨h.i.below b h.i.lt, h.box.below b h.box.lt, h.dn.still b, ownsRow_below h.fd b, h.bel.trans (b.mono h.bel.size)⟩
theorem Fb.fin {w0 w w' : World} {B : Nat} {st : Hst} {I k bo : Nat} {vok vrows : Value} {vals : List Value} {base : Nat} {vf : Value} (h : Fb w0 w B st I k bo vok vrows vals base vf) (w1 : World) (h1 : Fb w0 w1 B st I k bo vok vrows vals base vf) (b : Below w1.heap.size w1 w') (hk : k < st.ok.length) :
    (∃ I' k' : Nat, k' ≤ st.ok.length ∧ Value.pointer (some ⟨w'.heap.size, 0, none⟩) = Value.pointer (some ⟨I', 0, none⟩) ∧ Fb w0 (w'.alloc (.cells #[.int .i64 ((k : Int) + 1)] 3)) B st I' k' bo vok vrows vals base vf) ∧
      st.ok.length - ptrInt (.pointer (some ⟨w'.heap.size, 0, none⟩)) (w'.alloc (.cells #[.int .i64 ((k : Int) + 1)] 3)) < st.ok.length - ptrInt (.pointer (some ⟨I, 0, none⟩)) w := by
  have s := h1.still (b.alloc b.size (.cells #[.int .i64 ((k : Int) + 1)] 3))
  have hs : Fb w0 (w'.alloc (.cells #[.int .i64 ((k : Int) + 1)] 3)) B st w'.heap.size (k + 1) bo vok vrows vals base vf := ⟨HasR.new w' 3 _, s.box, s.dn, s.fd, s.bel⟩
  refine ⟨⟨w'.heap.size, k + 1, hk, rfl, hs⟩, ?_⟩
  rw [ptrInt_of hs.i, ptrInt_of h.i]
  omega
theorem block_of {w : World} {b : Nat} {t : TypeId} {n len : Nat} {p : Option Addr} {cap m : Nat} {l : List Value} (h : w.ownsRow b t n (.slice p m cap) len l) (hl : 0 < len) : ∃ g, p = some ⟨g, 0, none⟩ ∧ m = len := by
  obtain ⟨g, cap', e, _⟩ := h.form hl
  simp only [Value.slice.injEq] at e
  exact ⟨g, e.1, e.2.1⟩
theorem evs_c {w : World} {base g cap : Nat} {es : List Ev} {k : Nat} (h : w.ownsRow base 36 5 (.slice (some ⟨g, 0, none⟩) es.length cap) es.length (evsL es)) (hk : k < es.length) : w.cell? ⟨g, k * 5, none⟩ = some (.int .i64 (es.getD k ev0).k) ∧ w.cell? ⟨g, k * 5 + 1, none⟩ = some (.string (es.getD k ev0).s) ∧ w.cell? ⟨g, k * 5 + 2, none⟩ = some (.string (es.getD k ev0).t) ∧ w.cell? ⟨g, k * 5 + 3, none⟩ = some (.string (es.getD k ev0).r) ∧ w.cell? ⟨g, k * 5 + 4, none⟩ = some (.string (es.getD k ev0).v) ∧ g < w.heap.size := by
  have c : ∀ i, i < 5 → w.cell? ⟨g, k * 5 + i, none⟩ = (evL (es.getD k ev0))[i]? := fun i hi => (h.cellAt (k * 5 + i) (by omega)).trans (evsL_at es k i hk hi)
  have c0 : w.cell? ⟨g, k * 5, none⟩ = some (.int .i64 (es.getD k ev0).k) := c 0 (by omega)
  exact ⟨c0, c 1 (by omega), c 2 (by omega), c 3 (by omega), c 4 (by omega), block_lt_of_cell c0⟩
theorem recs_c {w : World} {base g cap m : Nat} {rs : List Rec} {k : Nat} (h : w.ownsRow base 30 5 (.slice (some ⟨g, 0, none⟩) m cap) m (recsL rs)) (hm : rs.length = m) (hk : k < m) : w.cell? ⟨g, k * 5, none⟩ = some (.int .i64 ((rs.getD k recZ).q : Int)) ∧ w.cell? ⟨g, k * 5 + 1, none⟩ = some (.string (rs.getD k recZ).s) ∧ w.cell? ⟨g, k * 5 + 2, none⟩ = some (.int .i64 ((rs.getD k recZ).g : Int)) ∧ w.cell? ⟨g, k * 5 + 3, none⟩ = some (.string (rs.getD k recZ).p) ∧ w.cell? ⟨g, k * 5 + 4, none⟩ = some (.string (rs.getD k recZ).d) ∧ g < w.heap.size := by
  subst hm
  have c : ∀ i, i < 5 → w.cell? ⟨g, k * 5 + i, none⟩ = (recL (rs.getD k recZ))[i]? := fun i hi => (h.cellAt (k * 5 + i) (by omega)).trans (recsL_at rs k i hk hi)
  have c0 : w.cell? ⟨g, k * 5, none⟩ = some (.int .i64 ((rs.getD k recZ).q : Int)) := c 0 (by omega)
  exact ⟨c0, c 1 (by omega), c 2 (by omega), c 3 (by omega), c 4 (by omega), block_lt_of_cell c0⟩
theorem Fb.vault {w0 w : World} {B : Nat} {st : Hst} {I k bo : Nat} {vok vrows : Value} {vals : List Value} {base : Nat} {vf : Value} (h : Fb w0 w B st I k bo vok vrows vals base vf) : Calls Tryz.prog 20 #[.pointer (some ⟨B + 2, 0, none⟩)] w fun x w' => x = .returned (.pointer (some ⟨B, 0, none⟩)) ∧ w' = w := by
  obtain ⟨mt, mv, v, hS, _⟩ := h.dn.src
  exact srcVault_any _ w _ _ _ _ _ _ _ _ _ _ _ _ hS
end Go.Proofs.YtkbaalenbpgheaaGreatDoor

/- Nothing of it is left: the law's closures, and the library's ContainsFunc and Contains by them. -/
namespace Go.Proofs.YtkbaalenbpgheaaGreatDoor
open Go.RowKit Go.Sort Go.Shelf
attribute [local go_sem ↓] Go.wp_at_zero Go.wp_at_succ
set_option linter.unusedSectionVars false
variable [Inhabited Cl] [Inhabited Ev]
def laysAnyC_ren : Go.Shelf.Ren := ⟨fun | 8 => 24 | 6 => 51 | n => n, fun | 22 => 45 | 23 => 42 | 25 => 43 | 4 => 4 | 3 => 3 | 0 => 0 | n => n, fun | n => n⟩
theorem laysAnyC : Go.Proofs.SlLaysH0.n8 Tryz.prog laysAnyC_ren := {
  mixed := by kernel_rfl
  f6 := ⟨Tryz.f51.name, by decide, Tryz.func51.trans (congrArg some (by kernel_rfl))⟩
  f8 := ⟨Tryz.f24.name, by decide, Tryz.func24.trans (congrArg some (by kernel_rfl))⟩
  t0 := Tryz.underlying0
  a0 := Tryz.isAgg0
  z0 := Tryz.sizeOf0
  v0 := Tryz.zeroValue0
  t3 := Tryz.underlying3
  a3 := Tryz.isAgg3
  z3 := Tryz.sizeOf3
  v3 := Tryz.zeroValue3
  t4 := Tryz.underlying4
  a4 := Tryz.isAgg4
  z4 := Tryz.sizeOf4
  v4 := Tryz.zeroValue4
  t22 := Tryz.underlying45
  a22 := Tryz.isAgg45
  z22 := Tryz.sizeOf45
  v22 := Tryz.zeroValue45
  t25 := Tryz.underlying43
  a25 := Tryz.isAgg43
  z25 := Tryz.sizeOf43
  v25 := Tryz.zeroValue43 }
set_option maxRecDepth 100000 in
set_option maxHeartbeats 1000000 in
theorem indexNoneZ (p : Option Addr) (c : Nat) (fv : Value) (w : World) : Calls Tryz.prog 51 #[.slice p 0 c, fv] w fun e w' => e = .returned (.int .i64 (-1)) ∧ w' = w := by
  go_enter Tryz.func51, Tryz.ntmps51
  go_wp2
  refine wp_loop_rounds 1 ?_
  rw [rounds_succ]
  go_wp2
  go_ret
  exact ⟨rfl, rfl⟩
set_option maxRecDepth 100000 in
set_option maxHeartbeats 1000000 in
theorem containsNoneC (p : Option Addr) (c : Nat) (fv : Value) (w : World) : Calls Tryz.prog 24 #[.slice p 0 c, fv] w fun e w' => e = .returned (.bool false) ∧ w' = w := by
  have I := hide (indexNoneZ p c fv w)
  go_enter Tryz.func24, Tryz.ntmps24
  go_wp2_with (go_at_call 51; (with_reducible refine I.out.mono ?_); rintro e w1 ⟨rfl, rfl⟩)
  go_ret
  exact ⟨rfl, rfl⟩
def laysAnyR_ren : Go.Shelf.Ren := ⟨fun | 8 => 26 | 6 => 57 | n => n, fun | 22 => 39 | 23 => 30 | 25 => 60 | 4 => 4 | 3 => 3 | 0 => 0 | n => n, fun | n => n⟩
theorem laysAnyR : Go.Proofs.SlLaysH0.n8 Tryz.prog laysAnyR_ren := {
  mixed := by kernel_rfl
  f6 := ⟨Tryz.f57.name, by decide, Tryz.func57.trans (congrArg some (by kernel_rfl))⟩
  f8 := ⟨Tryz.f26.name, by decide, Tryz.func26.trans (congrArg some (by kernel_rfl))⟩
  t0 := Tryz.underlying0
  a0 := Tryz.isAgg0
  z0 := Tryz.sizeOf0
  v0 := Tryz.zeroValue0
  t3 := Tryz.underlying3
  a3 := Tryz.isAgg3
  z3 := Tryz.sizeOf3
  v3 := Tryz.zeroValue3
  t4 := Tryz.underlying4
  a4 := Tryz.isAgg4
  z4 := Tryz.sizeOf4
  v4 := Tryz.zeroValue4
  t22 := Tryz.underlying39
  a22 := Tryz.isAgg39
  z22 := Tryz.sizeOf39
  v22 := Tryz.zeroValue39
  t25 := Tryz.underlying60
  a25 := Tryz.isAgg60
  z25 := Tryz.sizeOf60
  v25 := Tryz.zeroValue60 }
set_option maxRecDepth 100000 in
set_option maxHeartbeats 1000000 in
theorem indexNoneR (p : Option Addr) (c : Nat) (fv : Value) (w : World) : Calls Tryz.prog 57 #[.slice p 0 c, fv] w fun e w' => e = .returned (.int .i64 (-1)) ∧ w' = w := by
  go_enter Tryz.func57, Tryz.ntmps57
  go_wp2
  refine wp_loop_rounds 1 ?_
  rw [rounds_succ]
  go_wp2
  go_ret
  exact ⟨rfl, rfl⟩
set_option maxRecDepth 100000 in
set_option maxHeartbeats 1000000 in
theorem containsNoneR (p : Option Addr) (c : Nat) (fv : Value) (w : World) : Calls Tryz.prog 26 #[.slice p 0 c, fv] w fun e w' => e = .returned (.bool false) ∧ w' = w := by
  have I := hide (indexNoneR p c fv w)
  go_enter Tryz.func26, Tryz.ntmps26
  go_wp2_with (go_at_call 57; (with_reducible refine I.out.mono ?_); rintro e w1 ⟨rfl, rfl⟩)
  go_ret
  exact ⟨rfl, rfl⟩
/-- slices.ContainsFunc over cells. -/
theorem containsC (b : Nat) (v : Value) (cs : List Cl) (g : Nat) (lb : Array Value) (eg : ∀ args w, (callFunc g args).run Tryz.prog w = .ok (.enter g args) w) (p : Cl → Bool) (w : World) (hv : RowC w b v cs) (hl : cs.length ≤ 1000)
    (hp : PredBelow Tryz.prog g lb (fun x => .agg (cellL x).toArray) p w) :
    Calls Tryz.prog 24 #[v, .func (.func g) #[] lb] w fun e w' => e = .returned (.bool (cs.any p)) ∧ Below w.heap.size w w' := by
  rcases hv with ⟨rfl, rfl⟩ | ⟨g1, cap, rfl, _, hg, hc, _, H⟩
  · exact (containsNoneC none 0 _ w).mono fun e w' ⟨he, hw⟩ => ⟨he, by rw [hw]; exact Below.refl _ _⟩
  · have h := AnyQ.slices_ContainsFunc (ρ := laysAnyC_ren) laysAnyC 4 isAgg42 sizeOf42 cellL (fun _ => rfl) p g lb eg g1 0 cs.length cap cs w hp (Nat.le_refl _) (by omega) hg (RowC.cells H)
    rw [List.take_length] at h
    exact h
theorem isAgg30 (w : World) : (isAgg 30).run Tryz.prog w = .ok true w := by kernel_rfl
theorem sizeOf30 (w : World) : (Go.sizeOf 30).run Tryz.prog w = .ok 5 w := by kernel_rfl
def recL5 (r : Rec) : List Value := [.int .i64 (r.q : Int), .string r.s, .int .i64 (r.g : Int), .string r.p, .string r.d]
/-- slices.ContainsFunc over records. -/
theorem containsR (base : Nat) (v : Value) (rs : List Rec) (g : Nat) (lb : Array Value) (eg : ∀ args w, (callFunc g args).run Tryz.prog w = .ok (.enter g args) w) (p : Rec → Bool) (w : World) (hv : w.ownsRow base 30 5 v rs.length (recsL rs)) (hl : rs.length ≤ 1000)
    (hp : PredBelow Tryz.prog g lb (fun x => .agg (recL5 x).toArray) p w) :
    Calls Tryz.prog 26 #[v, .func (.func g) #[] lb] w fun e w' => e = .returned (.bool (rs.any p)) ∧ Below w.heap.size w w' := by
  letI : Inhabited Rec := ⟨recZ⟩
  obtain ⟨po, cap, rfl⟩ := ownsRow_slice hv
  by_cases h0 : rs = []
  · subst h0
    exact (containsNoneR po cap _ w).mono fun e w' ⟨he, hw⟩ => ⟨he, by rw [hw]; exact Below.refl _ _⟩
  · have hpos : 0 < rs.length := List.length_pos_iff.2 h0
    obtain ⟨g1, rfl, _⟩ := block_of hv hpos
    have hg : g1 < w.heap.size := (hv.lt g1 rfl).2
    have h := AnyQ.slices_ContainsFunc (ρ := laysAnyR_ren) laysAnyR 5 isAgg30 sizeOf30 recL5 (fun _ => rfl) p g lb eg g1 0 rs.length cap rs w hp (Nat.le_refl _) (by omega) hg (fun j hj i u hu => by
      obtain ⟨c0, c1, c2, c3, c4, _⟩ := recs_c hv rfl hj
      have e1 : rs[j]! = rs.getD j recZ := by rw [getElem!_pos rs j hj, List.getD_eq_getElem?_getD, List.getElem?_eq_getElem hj]; rfl
      rw [e1] at hu
      rw [Nat.zero_add]
      match i, hu with
      | 0, hu => cases hu; exact c0
      | 1, hu => cases hu; exact c1
      | 2, hu => cases hu; exact c2
      | 3, hu => cases hu; exact c3
      | 4, hu => cases hu; exact c4)
    rw [List.take_length] at h
    exact h
set_option maxRecDepth 100000 in
set_option maxHeartbeats 1000000 in
theorem gone1_any (e : Ev) (bs : Nat) (s : ByteArray) (W : World) (hs : W.cell? ⟨bs, 0, none⟩ = some (.string s)) :
    Calls Tryz.prog 12 #[.agg #[.int .i64 e.k, .string e.s, .string e.t, .string e.r, .string e.v], .pointer (some ⟨bs, 0, none⟩)] W fun x w' => x = .returned (.bool (decide (e.s = s))) ∧ Below W.heap.size W w' := by
  have lt : bs < W.heap.size := block_lt_of_cell hs
  have hq := same_bytes e.s s
  generalize decide (e.s = s) = ob at hq ⊢
  have bel : Below W.heap.size W (W.alloc (.cells #[.int .i64 e.k, .string e.s, .string e.t, .string e.r, .string e.v] 36)) := (Below.refl _ W).alloc (Nat.le_refl _) _
  have ne : bs ≠ W.heap.size := by omega
  have BL := hide bel
  clear bel
  go_enter Tryz.func12, Tryz.ntmps12
  go_wp2
  go_ret
  exact ⟨rfl, BL.out⟩
set_option maxRecDepth 100000 in
set_option maxHeartbeats 1000000 in
theorem gone2_any (c : Cl) (bs : Nat) (s : ByteArray) (W : World) (hs : W.cell? ⟨bs, 0, none⟩ = some (.string s)) :
    Calls Tryz.prog 14 #[.agg #[.string c.t, .string c.r, .string c.s, .string c.v], .pointer (some ⟨bs, 0, none⟩)] W fun x w' => x = .returned (.bool (decide (c.s = s))) ∧ Below W.heap.size W w' := by
  have lt : bs < W.heap.size := block_lt_of_cell hs
  have hq := same_bytes c.s s
  generalize decide (c.s = s) = ob at hq ⊢
  have bel : Below W.heap.size W (W.alloc (.cells #[.string c.t, .string c.r, .string c.s, .string c.v] 42)) := (Below.refl _ W).alloc (Nat.le_refl _) _
  have ne : bs ≠ W.heap.size := by omega
  have BL := hide bel
  clear bel
  go_enter Tryz.func14, Tryz.ntmps14
  go_wp2
  go_ret
  exact ⟨rfl, BL.out⟩
set_option maxRecDepth 100000 in
set_option maxHeartbeats 1000000 in
theorem gone3_any (c : Cl) (W : World) :
    Calls Tryz.prog 25 #[.agg #[.string c.t, .string c.r, .string c.s, .string c.v]] W fun x w' => x = .returned (.bool (decide (c.t = ⟨#[122, 122]⟩) && decide (c.r = ⟨#[122, 122]⟩))) ∧ Below W.heap.size W w' := by
  have e0 : (⟨#[122, 122]⟩ : ByteArray).toList = [122, 122] := by rw [ByteArray.toList_eq]
  have h1 := same_bytes c.t ⟨#[122, 122]⟩
  have h2 := same_bytes c.r ⟨#[122, 122]⟩
  rw [e0] at h1 h2
  generalize decide (c.t = ⟨#[122, 122]⟩) = o1 at h1 ⊢
  generalize decide (c.r = ⟨#[122, 122]⟩) = o2 at h2 ⊢
  have bel : Below W.heap.size W (W.alloc (.cells #[.string c.t, .string c.r, .string c.s, .string c.v] 42)) := (Below.refl _ W).alloc (Nat.le_refl _) _
  have BL := hide bel
  clear bel
  cases o1
  · go_enter Tryz.func25, Tryz.ntmps25
    go_wp2
    go_ret
    exact ⟨rfl, BL.out⟩
  · go_enter Tryz.func25, Tryz.ntmps25
    go_wp2
    go_ret
    exact ⟨rfl, BL.out⟩
set_option maxRecDepth 100000 in
set_option maxHeartbeats 1000000 in
theorem gone4_any (r : Rec) (bs bx G : Nat) (s : ByteArray) (W : World) (hs : W.cell? ⟨bs, 0, none⟩ = some (.string s)) (hx : W.cell? ⟨bx, 2, none⟩ = some (.int .i64 (G : Int))) :
    Calls Tryz.prog 27 #[.agg #[.int .i64 (r.q : Int), .string r.s, .int .i64 (r.g : Int), .string r.p, .string r.d], .pointer (some ⟨bs, 0, none⟩), .pointer (some ⟨bx, 0, none⟩)] W fun x w' => x = .returned (.bool (decide (r.s = s) && decide (G ≤ r.g))) ∧ Below W.heap.size W w' := by
  have lt : bs < W.heap.size := block_lt_of_cell hs
  have lx : bx < W.heap.size := block_lt_of_cell hx
  have hq := same_bytes r.s s
  generalize decide (r.s = s) = ob at hq ⊢
  have hg : decide ((G : Int) ≤ (r.g : Int)) = decide (G ≤ r.g) := by simp
  have bel : Below W.heap.size W (W.alloc (.cells #[.int .i64 (r.q : Int), .string r.s, .int .i64 (r.g : Int), .string r.p, .string r.d] 30)) := (Below.refl _ W).alloc (Nat.le_refl _) _
  have ne : bs ≠ W.heap.size := by omega
  have nx : bx ≠ W.heap.size := by omega
  have BL := hide bel
  clear bel
  cases ob
  · go_enter Tryz.func27, Tryz.ntmps27
    go_wp2
    go_ret
    exact ⟨rfl, BL.out⟩
  · by_cases hle : G ≤ r.g
    · have d1 : (G : Int) ≤ (r.g : Int) := by omega
      have d2 : decide (G ≤ r.g) = true := decide_eq_true hle
      rw [d2]
      clear hg d2 hle
      go_enter Tryz.func27, Tryz.ntmps27
      go_wp2
      go_ret
      exact ⟨rfl, BL.out⟩
    · have d1 : ¬ (G : Int) ≤ (r.g : Int) := by omega
      have d2 : decide (G ≤ r.g) = false := decide_eq_false hle
      rw [d2]
      clear hg d2 hle
      go_enter Tryz.func27, Tryz.ntmps27
      go_wp2
      go_ret
      exact ⟨rfl, BL.out⟩
set_option maxRecDepth 100000 in
set_option maxHeartbeats 1000000 in
/-- slices.Index of a text that is not there. -/
theorem indexT_none (base : Nat) (v : Value) (ts : List (List UInt8)) (s : ByteArray) (w : World) (hv : w.ownsRow base 9 1 v ts.length (ts.map encStr)) (hl : ts.length ≤ 1000) (hs : s.data.toList ∉ ts) :
    Calls Tryz.prog 52 #[v, .string s] w fun e w' => e = .returned (.int .i64 (-1)) ∧ Below w.heap.size w w' := by
  obtain ⟨po, cap, rfl⟩ := ownsRow_slice hv
  have HV := hide hv
  have HS := hide hs
  clear hv hs
  go_enter Tryz.func52, Tryz.ntmps52
  go_wp2
  go_loopw [8] (fun i wr => ∃ j : Nat, i = .int .i64 j ∧ j ≤ ts.length ∧ Below w.heap.size w wr) (fun i _ => ts.length - (intOf i).toNat)
  case atStart => exact ⟨0, rfl, Nat.zero_le _, Below.refl _ _⟩
  case round =>
    obtain ⟨j, rfl, hj, hb⟩ := hrel
    have BB := hide hb
    clear hb
    by_cases hlt : j < ts.length
    · obtain ⟨g, rfl, _⟩ := block_of HV.out (by omega)
      have hc : wr.cell? ⟨g, j, none⟩ = some (.string ⟨(ts.getD j []).toArray⟩) := by
        rcases (ownsRow_below HV.out BB.out).2 with ⟨e, _⟩ | ⟨g', cap', cur, e, _, hg, h1, h2, h3, h4⟩
        · cases e
        · simp only [Value.slice.injEq, Option.some.injEq, Addr.mk.injEq, and_true] at e
          obtain ⟨rfl, _⟩ := e
          rw [HasR.cell hg]
          have e1 : cur[j]? = (cur.toList.take (ts.length * 1))[j]? := by
            rw [List.getElem?_take_of_lt (by omega), Array.getElem?_toList]
          rw [e1, h4, List.getElem?_map, List.getElem?_eq_getElem hlt, List.getD_eq_getElem?_getD, List.getElem?_eq_getElem hlt]
          rfl
      have hne : (s.toList == (ts.getD j [])) = false := by
        rw [beq_eq_false_iff_ne, ByteArray.toList_eq]
        intro e
        exact HS.out (e ▸ getD_mem hlt)
      have lg : g < wr.heap.size := block_lt_of_cell hc
      have hne2 : (s.toList == (⟨(ts.getD j []).toArray⟩ : ByteArray).toList) = false := by
        rw [ByteArray.toList_eq ⟨(ts.getD j []).toArray⟩]
        exact hne
      have i1 : (j : Int) < (ts.length : Int) := by omega
      have hcap : j < cap ∨ True := .inr trivial
      clear hne
      generalize (⟨(ts.getD j []).toArray⟩ : ByteArray) = x at hc hne2
      go_wp2
      exact ⟨⟨j + 1, by go_num, by omega, BB.out⟩, by simp [intOf]; omega⟩
    · have ej : j = ts.length := by omega
      subst ej
      go_wp2
      go_ret
      exact ⟨rfl, BB.out⟩
set_option maxRecDepth 100000 in
set_option maxHeartbeats 1000000 in
/-- slices.Contains of a text that is not there. -/
theorem containsT_none (base : Nat) (v : Value) (ts : List (List UInt8)) (s : ByteArray) (w : World) (hv : w.ownsRow base 9 1 v ts.length (ts.map encStr)) (hl : ts.length ≤ 1000) (hs : s.data.toList ∉ ts) :
    Calls Tryz.prog 19 #[v, .string s] w fun e w' => e = .returned (.bool false) ∧ Below w.heap.size w w' := by
  have I := hide (indexT_none base v ts s w hv hl hs)
  clear hv hs
  go_enter Tryz.func19, Tryz.ntmps19
  go_wp2_with (go_at_call 52; (with_reducible refine I.out.mono ?_); rintro e w1 ⟨rfl, hb1⟩)
  go_ret
  exact ⟨rfl, hb1⟩
/-- Who has no key is none of the subjects. -/
theorem not_subject {σ : Kept} {ts : List (List UInt8)} {s : List UInt8} (h : InOrder σ ts) (hs : (σ s).2 = false) : s ∉ ts := by
  obtain ⟨ss, _, m, rfl⟩ := h
  rw [List.mem_mergeSort, m, hs]
  decide
end Go.Proofs.YtkbaalenbpgheaaGreatDoor

/- A fact that the laws begin with: rows. -/
namespace Go.Proofs.YtkbaalenbpgheaaGreatDoor
open Go.RowKit Go.Sort
attribute [local go_sem ↓] Go.wp_at_zero Go.wp_at_succ
set_option linter.unusedSectionVars false
variable [Inhabited Cl] [Inhabited Ev]
theorem tabV_new (w : World) : TabV (w.alloc (.cells #[.map none] 88)) w.heap.size 88 #[] none 0 tab0 := ⟨HasR.new w 88 _, fun _ => rfl, fun m e => by cases e⟩
theorem Upd.below {w w' : World} {b : Nat} {mo mo' : Option Nat} {n B : Nat} {σ : Tab} (h : Upd w w' b 88 #[] mo mo' n σ) (hB : B ≤ w.heap.size) (hL : ∀ k ∈ b :: mo.toList, B ≤ k) : Below B w w' := h.2.2.below hB hL
theorem Upd.low {w w' : World} {b : Nat} {mo mo' : Option Nat} {n B : Nat} {σ : Tab} (h : Upd w w' b 88 #[] mo mo' n σ) (hB : B ≤ w.heap.size) (hL : ∀ k ∈ b :: mo.toList, B ≤ k) : ∀ k ∈ b :: mo'.toList, B ≤ k := by
  obtain ⟨_, h2, _⟩ := h
  rcases h2 with rfl | ⟨rfl, m, rfl, hm⟩
  · exact hL
  · intro k hk
    rcases List.mem_cons.1 hk with rfl | hk
    · exact hL _ (by simp)
    · simp at hk
      omega
theorem put_apply (b : Nat) (w : World) (hV : TabV w b 88 #[] none 0 tab0) :
    Calls Tryz.prog 44 #[.pointer (some ⟨b, 0, none⟩), .agg #[.int .i64 1, .string ⟨#[97, 110, 110]⟩, .string ⟨#[116]⟩, .string ⟨#[114]⟩, .string ⟨#[118]⟩]] w fun x w' => x = .returned .nilIface ∧ ∃ mo', Upd w w' b 88 #[] none mo' 1 (app putE tab0) := by
  have h := apply_any b 88 #[] none putE 0 tab0 w put_brief (by omega) hV
  rw [put_err] at h
  exact h
theorem gone_apply (b : Nat) (mo : Option Nat) (σ : Tab) (w : World) (hV : TabV w b 88 #[] mo 1 σ) :
    Calls Tryz.prog 44 #[.pointer (some ⟨b, 0, none⟩), .agg #[.int .i64 3, .string ⟨#[97, 110, 110]⟩, .string ⟨#[]⟩, .string ⟨#[]⟩, .string ⟨#[]⟩]] w fun x w' => x = .returned .nilIface ∧ ∃ mo', Upd w w' b 88 #[] mo mo' 2 (app goneE σ) := by
  have h := apply_any b 88 #[] mo goneE 1 σ w gone_brief (by omega) hV
  rw [gone_err] at h
  exact h
theorem put_get (b : Nat) (mo : Option Nat) (w : World) (hV : TabV w b 88 #[] mo 1 (app putE tab0)) :
    Calls Tryz.prog 45 #[.pointer (some ⟨b, 0, none⟩), .string ⟨#[116]⟩, .string ⟨#[114]⟩] w fun x w' => x = .returned (.tuple #[.agg #[.string ⟨#[116]⟩, .string ⟨#[114]⟩, .string ⟨#[97, 110, 110]⟩, .string ⟨#[118]⟩], .nilIface]) ∧ Below w.heap.size w w' := by
  have h := get_any b 88 #[] mo ⟨#[116]⟩ ⟨#[114]⟩ 1 _ w (by decide) (by decide) hV
  have eg : getV (app putE tab0) ⟨#[116]⟩ ⟨#[114]⟩ = .tuple #[.agg #[.string ⟨#[116]⟩, .string ⟨#[114]⟩, .string ⟨#[97, 110, 110]⟩, .string ⟨#[118]⟩], .nilIface] := by
    unfold getV; rw [atC_some put_at, put_at]; rfl
  rw [eg] at h
  exact h
theorem none_cells (b : Nat) (mo : Option Nat) (w : World) (hV : TabV w b 88 #[] mo 2 (app goneE (app putE tab0))) :
    Calls Tryz.prog 46 #[.pointer (some ⟨b, 0, none⟩)] w fun x w' => (∃ p c, x = .returned (.slice p 0 c)) ∧ Below w.heap.size w w' := by
  refine (cells_any b 88 #[] mo 2 _ w (by omega) hV).mono ?_
  rintro x w' ⟨v, ds, rfl, ho, _, hr, hb⟩
  rw [gone_all] at ho
  obtain rfl := ho.eq inOrd0
  obtain ⟨p, c, rfl⟩ := hr.len
  exact ⟨⟨p, c, rfl⟩, hb⟩
set_option maxRecDepth 100000 in
set_option maxHeartbeats 2000000 in
theorem applied_any (w : World) : Calls Tryz.prog 8 #[] w fun x w' => x = .returned (.bool true) ∧ Below w.heap.size w w' := by
  have bel0 : Below w.heap.size w (w.alloc (.cells #[.map none] 88)) := (Below.refl _ w).alloc (Nat.le_refl _) _
  have A1 := hide (put_apply w.heap.size (w.alloc (.cells #[.map none] 88)) (tabV_new w))
  have hn := nilIface_ne
  have he := nilIface_eq
  have hc := cell_eql ⟨⟨#[116]⟩, ⟨#[114]⟩, ⟨#[97, 110, 110]⟩, ⟨#[118]⟩⟩ ⟨⟨#[116]⟩, ⟨#[114]⟩, ⟨#[97, 110, 110]⟩, ⟨#[118]⟩⟩
  rw [eqC_self] at hc
  have hg := guard42
  simp only at hc
  go_enter Tryz.func8, Tryz.ntmps8
  go_wp2_with (first
    | (go_at_call 44; (with_reducible refine A1.out.mono ?_); rintro x w1 ⟨rfl, mo1, hu1⟩
       have bel1 := hide (bel0.trans (hu1.below (by simp) (by simp)))
       have low1 := hide (hu1.low (B := w.heap.size) (by simp) (by simp))
       have hs1 := bel1.out.size
       have U1 := hide hu1
       clear hu1
       have G := hide (put_get w.heap.size mo1 w1 U1.out.1))
    | (go_at_call 45; (with_reducible refine G.out.mono ?_); rintro x w2 ⟨rfl, hb2⟩
       have hb3 : Below w1.heap.size w1 (w2.alloc (.cells #[.string ⟨#[116]⟩, .string ⟨#[114]⟩, .string ⟨#[97, 110, 110]⟩, .string ⟨#[118]⟩] 42)) := hb2.alloc hb2.size _
       have hs2 := hb2.size
       have A2 := hide (gone_apply w.heap.size mo1 _ _ (U1.out.1.below hb3))
       have B3 := hide hb3
       clear hb2 hb3)
    | (go_at_call 44; (with_reducible refine A2.out.mono ?_); rintro x w3 ⟨rfl, mo2, hu2⟩
       have U2 := hide hu2
       clear hu2
       have C := hide (none_cells w.heap.size mo2 w3 U2.out.1))
    | (go_at_call 46; (with_reducible refine C.out.mono ?_); rintro x w4 ⟨⟨p, c, rfl⟩, hb4⟩))
  go_ret
  have h3 := U2.out.below (B := w.heap.size) (by simp; omega) low1.out
  exact ⟨rfl, ((bel1.out.trans (B3.out.mono hs1)).trans h3).trans (hb4.mono (by have := h3.size; simp at this; omega))⟩
end Go.Proofs.YtkbaalenbpgheaaGreatDoor
