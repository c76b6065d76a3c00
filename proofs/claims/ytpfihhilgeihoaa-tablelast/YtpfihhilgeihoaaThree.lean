/- Three tables side by side, and an event's box, as the law TableTwice has them. -/
import Derived.Test.YtpfihhilgeihoaaStruck
import Derived.Test.YtpfihhilgeihoaaTurns
namespace Go.Proofs.Ytpfihhilgeihoaa
open Go.RowKit Go.Sort
attribute [local go_sem ↓] Go.wp_at_zero Go.wp_at_succ
set_option linter.unusedSectionVars false
variable [Inhabited Cl] [Inhabited Ev]
/-- A row of cells is not a table's memory. -/
theorem RowC.off {w : World} {g : Nat} {cs : List Cl} {X : Nat} {mx : Option Nat} {n : Nat} {σ : Tab} (H : HoldsK cellL 4 w g 0 cs.toArray) (hc : cs ≠ []) (h : TabV w X mx n σ) : g ∉ X :: mx.toList := by
  have h0 := (HoldsK.cell H (i := 0) (c := 0) (by simpa using List.length_pos_iff.2 hc) (by omega)).1
  simp only [Nat.zero_add, Nat.zero_mul] at h0
  have hs : (cellL cs.toArray[0]!)[0]! = .string cs.toArray[0]!.t := rfl
  rw [hs] at h0
  intro hm
  rcases List.mem_cons.1 hm with rfl | hm
  · have := h.row.cell 0
    rw [h0] at this
    simp at this
  · cases mx with
    | none => simp at hm
    | some m =>
      simp at hm
      subst hm
      obtain ⟨D, ⟨es, clock, hh, _⟩, _⟩ := h.held g rfl
      simp [World.cell?, hh] at h0
theorem RowC.upd {w w' : World} {base : Nat} {v : Value} {cs : List Cl} {X : Nat} {mx mx' : Option Nat} {n m : Nat} {σ σ' : Tab} (h : RowC w base v cs) (hX : TabV w X mx n σ) (k : Upd w w' X mx mx' m σ') : RowC w' base v cs := by
  rcases h with h | ⟨g, cap, rfl, hb, hg, h1, h2, H⟩
  · exact .inl h
  · refine .inr ⟨g, cap, rfl, hb, Nat.lt_of_lt_of_le hg k.2.2.size, h1, h2, ?_⟩
    by_cases hc : cs = []
    · subst hc
      intro j hj
      simp at hj
    · exact holdsK_same H (k.2.2.block g hg (RowC.off H hc hX))
theorem RowC.still {w w' : World} {base : Nat} {v : Value} {cs : List Cl} (h : RowC w base v cs) (k : Below w.heap.size w w') : RowC w' base v cs := h.below k (Nat.le_refl _)
theorem RowC.box {w w' : World} {base : Nat} {v : Value} {cs : List Cl} {E : Nat} {q : Value} {ev : Array Value} {i : Int} (h : RowC w base v cs) (hE : HasR w E 36 ev) (h0 : ev[0]? = some (.int .i64 i)) (o : Nat) (hw : w' = w.setCell ⟨E, o, none⟩ q) : RowC w' base v cs := by
  subst hw
  rcases h with h | ⟨g, cap, rfl, hb, hg, h1, h2, H⟩
  · exact .inl h
  · refine .inr ⟨g, cap, rfl, hb, by simpa [World.setCell] using hg, h1, h2, ?_⟩
    by_cases hc : cs = []
    · subst hc
      intro j hj
      simp at hj
    · have hne : g ≠ E := by
        rintro rfl
        have h3 := (HoldsK.cell H (i := 0) (c := 0) (by simpa using List.length_pos_iff.2 hc) (by omega)).1
        simp only [Nat.zero_mul, Nat.add_zero] at h3
        have h4 := hE.cell 0
        rw [h3, h0] at h4
        have hs : (cellL cs.toArray[0]!)[0]! = .string cs.toArray[0]!.t := rfl
        rw [hs] at h4
        simp at h4
      exact holdsK_same H (heap_setCell_other w ⟨E, o, none⟩ g q hne)
/-- Three tables and an event's box, above what was there when the law began. -/
structure Three (W w : World) (X Y Z : Nat) (mx my mz : Option Nat) (nx ny nz : Nat) (σ τ υ : Tab) (ev : Array Value) : Prop where
  x : TabV w X mx nx σ
  y : TabV w Y my ny τ
  z : TabV w Z mz nz υ
  lowx : ∀ k ∈ X :: mx.toList, W.heap.size + 1 ≤ k
  lowy : ∀ k ∈ Y :: my.toList, W.heap.size + 1 ≤ k
  lowz : ∀ k ∈ Z :: mz.toList, W.heap.size + 1 ≤ k
  xy : Far X mx Y my
  xz : Far X mx Z mz
  yz : Far Y my Z mz
  box : HasR w W.heap.size 36 ev
  below : Below W.heap.size W w
theorem Three.stepX {W w w' : World} {X Y Z : Nat} {mx mx' my mz : Option Nat} {nx ny nz n : Nat} {σ τ υ σ' : Tab} {ev : Array Value} (h : Three W w X Y Z mx my mz nx ny nz σ τ υ ev) (k : Upd w w' X mx mx' n σ') : Three W w' X Y Z mx' my mz n ny nz σ' τ υ ev :=
  have hs : W.heap.size + 1 ≤ w.heap.size := h.box.lt
  ⟨k.1, k.other h.xy h.y, k.other h.xz h.z, k.low hs h.lowx, h.lowy, h.lowz, k.far h.xy h.y, k.far h.xz h.z, h.yz,
    h.box.turned k.2.2 (fun hm => by have := h.lowx _ hm; omega), h.below.trans (k.below h.below.size (fun j hj => by have := h.lowx j hj; omega))⟩
theorem Three.swapXY {W w : World} {X Y Z : Nat} {mx my mz : Option Nat} {nx ny nz : Nat} {σ τ υ : Tab} {ev : Array Value} (h : Three W w X Y Z mx my mz nx ny nz σ τ υ ev) : Three W w Y X Z my mx mz ny nx nz τ σ υ ev :=
  ⟨h.y, h.x, h.z, h.lowy, h.lowx, h.lowz, h.xy.symm, h.yz, h.xz, h.box, h.below⟩
theorem Three.swapXZ {W w : World} {X Y Z : Nat} {mx my mz : Option Nat} {nx ny nz : Nat} {σ τ υ : Tab} {ev : Array Value} (h : Three W w X Y Z mx my mz nx ny nz σ τ υ ev) : Three W w Z Y X mz my mx nz ny nx υ τ σ ev :=
  ⟨h.z, h.y, h.x, h.lowz, h.lowy, h.lowx, h.yz.symm, h.xz.symm, h.xy.symm, h.box, h.below⟩
theorem Three.stepY {W w w' : World} {X Y Z : Nat} {mx my my' mz : Option Nat} {nx ny nz n : Nat} {σ τ υ τ' : Tab} {ev : Array Value} (h : Three W w X Y Z mx my mz nx ny nz σ τ υ ev) (k : Upd w w' Y my my' n τ') : Three W w' X Y Z mx my' mz nx n nz σ τ' υ ev :=
  (h.swapXY.stepX k).swapXY
theorem Three.stepZ {W w w' : World} {X Y Z : Nat} {mx my mz mz' : Option Nat} {nx ny nz n : Nat} {σ τ υ υ' : Tab} {ev : Array Value} (h : Three W w X Y Z mx my mz nx ny nz σ τ υ ev) (k : Upd w w' Z mz mz' n υ') : Three W w' X Y Z mx my mz' nx ny n σ τ υ' ev :=
  (h.swapXZ.stepX k).swapXZ
theorem Three.still {W w w' : World} {X Y Z : Nat} {mx my mz : Option Nat} {nx ny nz : Nat} {σ τ υ : Tab} {ev : Array Value} (h : Three W w X Y Z mx my mz nx ny nz σ τ υ ev) (k : Below w.heap.size w w') : Three W w' X Y Z mx my mz nx ny nz σ τ υ ev :=
  ⟨h.x.below k, h.y.below k, h.z.below k, h.lowx, h.lowy, h.lowz, h.xy, h.xz, h.yz, h.box.below k h.box.lt, h.below.trans (k.mono h.below.size)⟩
theorem Three.set {W w : World} {X Y Z : Nat} {mx my mz : Option Nat} {nx ny nz : Nat} {σ τ υ : Tab} {ev : Array Value} (h : Three W w X Y Z mx my mz nx ny nz σ τ υ ev) (o : Nat) (q : Value) : Three W (w.setCell ⟨W.heap.size, o, none⟩ q) X Y Z mx my mz nx ny nz σ τ υ (ev.setIfInBounds o q) := by
  have t : Stirred [W.heap.size] w (w.setCell ⟨W.heap.size, o, none⟩ q) := Stirred.setCell w ⟨W.heap.size, o, none⟩ q
  have nx : ∀ {X : Nat} {mx : Option Nat}, (∀ k ∈ X :: mx.toList, W.heap.size + 1 ≤ k) → ∀ k ∈ X :: mx.toList, k ∉ [W.heap.size] := fun hl k hk hm => by
    have := hl k hk
    simp at hm
    omega
  exact ⟨h.x.turned t (nx h.lowx _ (by simp)) (fun m e => nx h.lowx m (by rw [e]; simp)), h.y.turned t (nx h.lowy _ (by simp)) (fun m e => nx h.lowy m (by rw [e]; simp)), h.z.turned t (nx h.lowz _ (by simp)) (fun m e => nx h.lowz m (by rw [e]; simp)),
    h.lowx, h.lowy, h.lowz, h.xy, h.xz, h.yz, h.box.set o q, h.below.setCell (Nat.le_refl _) q⟩
theorem three_new {W w : World} {ev : Array Value} (hb : Below W.heap.size W w) (hE : HasR w W.heap.size 36 ev) :
    Three W (((w.alloc (.cells #[.map none] 33)).alloc (.cells #[.map none] 33)).alloc (.cells #[.map none] 33)) w.heap.size (w.heap.size + 1) (w.heap.size + 1 + 1) none none none 0 0 0 tab0 tab0 tab0 ev := by
  have hl := hE.lt
  have hs := hb.size
  have n0 := tabV_new w
  have n1 := tabV_new (w.alloc (.cells #[.map none] 33))
  have n2 := tabV_new ((w.alloc (.cells #[.map none] 33)).alloc (.cells #[.map none] 33))
  simp only [World.size_alloc] at n1 n2
  have al : ∀ W : World, Below W.heap.size W (W.alloc (.cells #[.map none] 33)) := fun W => (Below.refl _ W).alloc (Nat.le_refl _) _
  refine ⟨(n0.below (al _)).below (al _), n1.below (al _), n2, ?_, ?_, ?_, ?_, ?_, ?_, ((hE.alloc _).alloc _).alloc _, ((hb.alloc hs _).alloc (by simp; omega) _).alloc (by simp; omega) _⟩
  · intro k hk
    simp at hk
    omega
  · intro k hk
    simp at hk
    omega
  · intro k hk
    simp at hk
    omega
  · intro k hk hk'
    simp at hk hk'
    omega
  · intro k hk hk'
    simp at hk hk'
    omega
  · intro k hk hk'
    simp at hk hk'
    omega
/-- An event's cells in its box. -/
def evA (e : Ev) : Array Value := #[.int .i64 e.k, .string e.s, .string e.t, .string e.r, .string e.v]
theorem box_cells {w : World} {B : Nat} {e : Ev} (h : HasR w B 36 (evA e)) : w.cell? ⟨B, 0, none⟩ = some (.int .i64 e.k) ∧ w.cell? ⟨B, 1, none⟩ = some (.string e.s) ∧ w.cell? ⟨B, 2, none⟩ = some (.string e.t) ∧ w.cell? ⟨B, 3, none⟩ = some (.string e.r) ∧ w.cell? ⟨B, 4, none⟩ = some (.string e.v) :=
  ⟨h.cell 0, h.cell 1, h.cell 2, h.cell 3, h.cell 4⟩
theorem boxRow {w : World} {B : Nat} {e : Ev} (h : HasR w B 36 (evA e)) : EvRow w (.slice (some ⟨B, 0, none⟩) 1 1) [e] := by
  refine .inr ⟨B, 0, 1, rfl, Nat.le_refl _, h.lt, fun j hj i u hu => ?_⟩
  have : j = 0 := by simpa using hj
  subst this
  rw [HasR.cell h, Nat.zero_mul, Nat.zero_add, ← Array.getElem?_toList]
  exact hu
theorem RowC.at {w : World} {base : Nat} {ao : Option Addr} {n cap : Nat} {cs : List Cl} {k : Nat} (h : RowC w base (.slice ao n cap) cs) (hk : k < cs.length) : ∃ g, ao = some ⟨g, 0, none⟩ ∧ g < w.heap.size ∧
    w.cell? ⟨g, k * 4, none⟩ = some (.string cs[k]!.t) ∧ w.cell? ⟨g, k * 4 + 1, none⟩ = some (.string cs[k]!.r) ∧ w.cell? ⟨g, k * 4 + 2, none⟩ = some (.string cs[k]!.s) ∧ w.cell? ⟨g, k * 4 + 3, none⟩ = some (.string cs[k]!.v) := by
  rcases h with ⟨_, rfl⟩ | ⟨g, cap', hv, _, hg, _, _, H⟩
  · simp at hk
  · simp only [Value.slice.injEq] at hv
    have c := RowC.cells H k hk
    simp only [Nat.zero_add] at c
    exact ⟨g, hv.1, hg, c 0 _ rfl, c 1 _ rfl, c 2 _ rfl, c 3 _ rfl⟩
theorem TabV.small {w : World} {b : Nat} {mo : Option Nat} {n : Nat} {σ : Tab} (h : TabV w b mo n σ) {c : Cl} (hc : σ c.t c.r = some (c.s, c.v)) : Small c := by
  cases mo with
  | none =>
    rw [h.none rfl] at hc
    cases hc
  | some m =>
    obtain ⟨D, _, hR⟩ := h.held m rfl
    exact hR.1 c hc
theorem mem_atC {cs : List Cl} {k : Nat} (h : k < cs.length) : cs[k]! ∈ cs := by rw [getElem!_pos cs k h]; exact List.getElem_mem h
theorem dels_take {cs : List Cl} {s : ByteArray} {k : Nat} (h : k < cs.length) (σ : Tab) : runs ((cs.map (delOf s)).take (k + 1)) σ = app (delOf s cs[k]!) (runs ((cs.map (delOf s)).take k) σ) := by
  rw [runs_take (by simpa using h)]
  congr 1
  rw [getElem!_pos _ k (by simpa using h), getElem!_pos cs k h, List.getElem_map]
theorem strike_keep {w : World} {B : Nat} {e : Ev} {base g n cap : Nat} {cs : List Cl} {j : Nat} {c : Cl} (hb : HasR w B 36 (evA e)) (h : RowC w base (.slice (some ⟨g, 0, none⟩) n cap) cs) (hj : j < cs.length) (hc : cs[j]! = c) :
    w.cell? ⟨B, 1, none⟩ = some (.string e.s) ∧ w.cell? ⟨g, j * 4, none⟩ = some (.string c.t) ∧ w.cell? ⟨g, j * 4 + 1, none⟩ = some (.string c.r) := by
  obtain ⟨g', hg, _, a0, a1, _⟩ := h.at hj
  simp only [Option.some.injEq, Addr.mk.injEq, and_true] at hg
  subst hg
  rw [hc] at a0 a1
  exact ⟨(box_cells hb).2.1, a0, a1⟩
end Go.Proofs.Ytpfihhilgeihoaa
