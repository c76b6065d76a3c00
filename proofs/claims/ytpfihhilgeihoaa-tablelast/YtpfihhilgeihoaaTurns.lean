/- EACH FOR ITSELF: the law's walk. -/
import Derived.Test.YtpfihhilgeihoaaOne
namespace Go.Proofs.Ytpfihhilgeihoaa
open Go.RowKit Go.Sort
attribute [local go_sem ↓] Go.wp_at_zero Go.wp_at_succ
set_option linter.unusedSectionVars false
variable [Inhabited Cl] [Inhabited Ev]
/-- Bools in a row of memory. -/
def BoolRow (w : World) (v : Value) (bs : List Bool) : Prop :=
  ((∃ ao cap, v = .slice ao 0 cap) ∧ bs = []) ∨ ∃ b off cap, v = .slice (some ⟨b, off, none⟩) bs.length cap ∧ b < w.heap.size ∧ ∀ j, j < bs.length → w.cell? ⟨b, off + j, none⟩ = some (.bool bs[j]!)
theorem BoolRow.slice {w : World} {v : Value} {bs : List Bool} (h : BoolRow w v bs) : ∃ ao cap, v = .slice ao bs.length cap := by
  rcases h with ⟨⟨ao, cap, rfl⟩, rfl⟩ | ⟨b, off, cap, rfl, _⟩
  · exact ⟨_, _, rfl⟩
  · exact ⟨_, _, rfl⟩
theorem BoolRow.below {w w' : World} {v : Value} {bs : List Bool} {B : Nat} (h : BoolRow w v bs) (k : Below B w w') (hB : w.heap.size ≤ B) : BoolRow w' v bs := by
  rcases h with h | ⟨b, off, cap, rfl, hb, hx⟩
  · exact .inl h
  · exact .inr ⟨b, off, cap, rfl, Nat.lt_of_lt_of_le hb k.size, fun j hj => (k.cell (p := ⟨b, off + j, none⟩) (Nat.lt_of_lt_of_le hb hB)).trans (hx j hj)⟩
theorem BoolRow.at {w : World} {ao : Option Addr} {n cap : Nat} {bs : List Bool} {k : Nat} (h : BoolRow w (.slice ao n cap) bs) (hk : k < bs.length) : ∃ b off, ao = some ⟨b, off, none⟩ ∧ w.cell? ⟨b, off + k, none⟩ = some (.bool bs[k]!) := by
  rcases h with ⟨_, rfl⟩ | ⟨b, off, cap', hv, hb, hx⟩
  · simp at hk
  · simp only [Value.slice.injEq] at hv
    exact ⟨b, off, hv.1, hx k hk⟩
theorem EvRow.at {w : World} {ao : Option Addr} {n cap : Nat} {es : List Ev} {k : Nat} (h : EvRow w (.slice ao n cap) es) (hk : k < es.length) : ∃ b off, ao = some ⟨b, off, none⟩ ∧ b < w.heap.size ∧
    w.cell? ⟨b, off + k * 5, none⟩ = some (.int .i64 es[k]!.k) ∧ w.cell? ⟨b, off + k * 5 + 1, none⟩ = some (.string es[k]!.s) ∧ w.cell? ⟨b, off + k * 5 + 2, none⟩ = some (.string es[k]!.t) ∧ w.cell? ⟨b, off + k * 5 + 3, none⟩ = some (.string es[k]!.r) ∧ w.cell? ⟨b, off + k * 5 + 4, none⟩ = some (.string es[k]!.v) := by
  rcases h with ⟨_, rfl⟩ | ⟨b, off, cap', hv, hc, hb, hx⟩
  · simp at hk
  · simp only [Value.slice.injEq] at hv
    exact ⟨b, off, hv.1, hb, EvRow.five hx hk⟩
theorem mem_at {es : List Ev} {k : Nat} (h : k < es.length) : es[k]! ∈ es := by rw [getElem!_pos es k h]; exact List.getElem_mem h
theorem runs_take {es : List Ev} {k : Nat} (h : k < es.length) (σ : Tab) : runs (es.take (k + 1)) σ = app es[k]! (runs (es.take k) σ) := by rw [take_snocE es k h, runs_snoc]
theorem at_left {A B : List Ev} {i : Nat} (h : i < A.length) : (A ++ B)[i]! = A[i]! := by
  rw [getElem!_pos (A ++ B) i (by simp; omega), getElem!_pos A i h, List.getElem_append_left h]
theorem at_right {A B : List Ev} {j : Nat} (h : j < B.length) : (A ++ B)[A.length + j]! = B[j]! := by
  rw [getElem!_pos (A ++ B) (A.length + j) (by simp; omega), getElem!_pos B j h, List.getElem_append_right (by omega)]
  simp
/-- What the law leans on of the events that it makes. -/
structure Made (A B : List Ev) : Prop where
  la : A.length ≤ 30
  lb : B.length ≤ 30
  ba : ∀ e ∈ A, Brief e
  bb : ∀ e ∈ B, Brief e
  swap : ∀ e ∈ A, ∀ f ∈ B, ∀ σ, app e (app f σ) = app f (app e σ)
theorem one_brief {s t : ByteArray} {e : Ev} (h : Brief e) (hs : s.size ≤ 60) (ht : t.size ≤ 60) : Brief (oneE s t e) := by
  refine ⟨hs, ?_, h.r, h.v⟩
  unfold oneE
  simp only
  split
  · exact h.t
  · exact ht
theorem made_ones {es fs : List Ev} (h1 : fewB es = true) (h2 : fewB fs = true) : Made (es.map (oneE ⟨#[97, 110, 110]⟩ ⟨#[116]⟩)) (fs.map (oneE ⟨#[98, 111, 98]⟩ ⟨#[117]⟩)) := by
  obtain ⟨l1, b1⟩ := few_brief h1
  obtain ⟨l2, b2⟩ := few_brief h2
  refine ⟨by rw [List.length_map]; exact l1, by rw [List.length_map]; exact l2, ?_, ?_, ?_⟩
  · intro e he
    obtain ⟨e', h, rfl⟩ := List.mem_map.1 he
    exact one_brief (b1 e' h) (by decide) (by decide)
  · intro e he
    obtain ⟨e', h, rfl⟩ := List.mem_map.1 he
    exact one_brief (b2 e' h) (by decide) (by decide)
  · intro e he f hf σ
    obtain ⟨e', _, rfl⟩ := List.mem_map.1 he
    obtain ⟨f', _, rfl⟩ := List.mem_map.1 hf
    refine app_swap (show (⟨#[97, 110, 110]⟩ : ByteArray) ≠ ⟨#[98, 111, 98]⟩ by decide) ?_ σ
    unfold oneE
    simp only
    by_cases h3 : e'.k = 3
    · exact .inl h3
    · by_cases h4 : f'.k = 3
      · exact .inr (.inl h4)
      · rw [if_neg h3, if_neg h4]
        exact .inr (.inr (by decide))
end Go.Proofs.Ytpfihhilgeihoaa
