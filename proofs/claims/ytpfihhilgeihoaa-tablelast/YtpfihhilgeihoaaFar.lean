/- Tables side by side: what a call at one leaves of another. -/
import Derived.Test.YtpfihhilgeihoaaApplied
namespace Go.Proofs.Ytpfihhilgeihoaa
open Go.RowKit Go.Sort
attribute [local go_sem ↓] Go.wp_at_zero Go.wp_at_succ
set_option linter.unusedSectionVars false
variable [Inhabited Cl] [Inhabited Ev]
/-- Two tables have no memory in common. -/
def Far (X : Nat) (mx : Option Nat) (Y : Nat) (my : Option Nat) : Prop := ∀ k ∈ X :: mx.toList, k ∉ Y :: my.toList
theorem Far.symm {X Y : Nat} {mx my : Option Nat} (h : Far X mx Y my) : Far Y my X mx := fun k hk hk' => h k hk' hk
theorem TabV.blocks {w : World} {b : Nat} {mo : Option Nat} {n : Nat} {σ : Tab} (h : TabV w b mo n σ) : ∀ k ∈ b :: mo.toList, k < w.heap.size := by
  intro k hk
  rcases List.mem_cons.1 hk with rfl | hk
  · exact h.row.lt
  · cases mo with
    | none => simp at hk
    | some m =>
      simp at hk
      subst hk
      obtain ⟨D, o, _⟩ := h.held k rfl
      exact o.lt
theorem Upd.far {w w' : World} {X Y : Nat} {mx mx' my : Option Nat} {n m : Nat} {σ τ : Tab} (h : Upd w w' X mx mx' n σ) (hf : Far X mx Y my) (hY : TabV w Y my m τ) : Far X mx' Y my := by
  rcases h.2.1 with rfl | ⟨rfl, j, rfl, hj⟩
  · exact hf
  · intro k hk hk'
    rcases List.mem_cons.1 hk with rfl | hk
    · exact hf _ (by simp) hk'
    · simp at hk
      have := hY.blocks k hk'
      omega
theorem Upd.other {w w' : World} {X Y : Nat} {mx mx' my : Option Nat} {n m : Nat} {σ τ : Tab} (h : Upd w w' X mx mx' n σ) (hf : Far X mx Y my) (hY : TabV w Y my m τ) : TabV w' Y my m τ :=
  hY.turned h.2.2 (fun hm => hf Y hm (by simp)) (fun j e hm => hf j hm (by rw [e]; simp))
/-- Two tables, above what was there when the law laid them. -/
structure Two (W w : World) (X Y : Nat) (mx my : Option Nat) (nx ny : Nat) (σ τ : Tab) : Prop where
  x : TabV w X mx nx σ
  y : TabV w Y my ny τ
  lowx : ∀ k ∈ X :: mx.toList, W.heap.size ≤ k
  lowy : ∀ k ∈ Y :: my.toList, W.heap.size ≤ k
  far : Far X mx Y my
  below : Below W.heap.size W w
theorem Two.stepX {W w w' : World} {X Y : Nat} {mx mx' my : Option Nat} {nx ny n : Nat} {σ τ σ' : Tab} (h : Two W w X Y mx my nx ny σ τ) (k : Upd w w' X mx mx' n σ') : Two W w' X Y mx' my n ny σ' τ :=
  ⟨k.1, k.other h.far h.y, k.low h.below.size h.lowx, h.lowy, k.far h.far h.y, h.below.trans (k.below h.below.size h.lowx)⟩
theorem Two.swap {W w : World} {X Y : Nat} {mx my : Option Nat} {nx ny : Nat} {σ τ : Tab} (h : Two W w X Y mx my nx ny σ τ) : Two W w Y X my mx ny nx τ σ :=
  ⟨h.y, h.x, h.lowy, h.lowx, h.far.symm, h.below⟩
theorem Two.stepY {W w w' : World} {X Y : Nat} {mx my my' : Option Nat} {nx ny n : Nat} {σ τ τ' : Tab} (h : Two W w X Y mx my nx ny σ τ) (k : Upd w w' Y my my' n τ') : Two W w' X Y mx my' nx n σ τ' :=
  (h.swap.stepX k).swap
theorem Two.still {W w w' : World} {X Y : Nat} {mx my : Option Nat} {nx ny : Nat} {σ τ : Tab} (h : Two W w X Y mx my nx ny σ τ) (k : Below w.heap.size w w') : Two W w' X Y mx my nx ny σ τ :=
  ⟨h.x.below k, h.y.below k, h.lowx, h.lowy, h.far, h.below.trans (k.mono h.below.size)⟩
theorem two_new (W : World) : Two W ((W.alloc (.cells #[.map none] 33)).alloc (.cells #[.map none] 33)) W.heap.size (W.heap.size + 1) none none 0 0 tab0 tab0 := by
  have b1 : Below W.heap.size W (W.alloc (.cells #[.map none] 33)) := (Below.refl _ W).alloc (Nat.le_refl _) _
  refine ⟨(tabV_new W).below ((Below.refl _ _).alloc (Nat.le_refl _) _), ?_, by simp, by simp, ?_, b1.alloc (by simp) _⟩
  · have h := tabV_new (W.alloc (.cells #[.map none] 33))
    rw [World.size_alloc] at h
    exact h
  · intro k hk
    simp at hk ⊢
    omega
end Go.Proofs.Ytpfihhilgeihoaa
