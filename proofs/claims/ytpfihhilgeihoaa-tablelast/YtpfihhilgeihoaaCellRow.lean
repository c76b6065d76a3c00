/- Cells in a row of memory: what the calls hand back. -/
import Derived.Test.YtpfihhilgeihoaaGather
import Derived.Test.YtpfihhilgeihoaaCompare
namespace Go.Proofs.Ytpfihhilgeihoaa
open Go.RowKit Go.Sort
set_option linter.unusedSectionVars false
variable [Inhabited Cl]
theorem cellsL_at : ∀ (cs : List Cl) (t : Nat), t < cs.length * 4 → (cellsL cs)[t]? = some ((cellL cs.toArray[t / 4]!)[t % 4]!)
  | [], t, h => by simp at h
  | c :: cs, t, h => by
    have e : cellsL (c :: cs) = cellL c ++ cellsL cs := rfl
    rw [e]
    by_cases h4 : t < 4
    · have e1 : t / 4 = 0 := by omega
      have e2 : t % 4 = t := by omega
      rw [e1, e2, List.getElem?_append_left (by exact h4)]
      match t, h4 with
      | 0, _ => rfl
      | 1, _ => rfl
      | 2, _ => rfl
      | 3, _ => rfl
    · have e1 : t / 4 = (t - 4) / 4 + 1 := by omega
      have e2 : t % 4 = (t - 4) % 4 := by omega
      rw [e1, e2, List.getElem?_append_right (by exact Nat.le_of_not_lt h4)]
      have ih := cellsL_at cs (t - 4) (by simp at h; omega)
      have e3 : (c :: cs).toArray[(t - 4) / 4 + 1]! = cs.toArray[(t - 4) / 4]! := by simp
      rw [e3, ← ih]
      rfl
theorem holds_of_block {w : World} {g : Nat} {cur : Array Value} {cs : List Cl} (hg : w.heap[g]? = some (.cells cur 42 (0, 0))) (hc : cur.toList.take (cs.length * 4) = cellsL cs) : HoldsK cellL 4 w g 0 cs.toArray := by
  intro j hj
  rw [size_flatK, List.size_toArray] at hj
  rw [get_flatK _ _ _ _ (by rw [List.size_toArray]; exact hj), Nat.zero_add]
  refine ⟨?_, frozen_of_row w g j cur 42 hg⟩
  rw [cell_of_row w g j cur 42 (0, 0) hg, ← Array.getElem?_toList, ← List.getElem?_take_of_lt hj, hc, cellsL_at cs j hj]
  rfl
/-- The cells lie in the row that a slice names. -/
def RowC (w : World) (base : Nat) (v : Value) (cs : List Cl) : Prop :=
  (v = .slice none 0 0 ∧ cs = []) ∨ ∃ g cap, v = .slice (some ⟨g, 0, none⟩) cs.length cap ∧ base ≤ g ∧ g < w.heap.size ∧ cs.length ≤ cap ∧ cap ≤ maxLen ∧ HoldsK cellL 4 w g 0 cs.toArray
theorem RowC.of_owns {w : World} {base : Nat} {v : Value} {cs : List Cl} (h : w.ownsRow base 42 4 v cs.length (cellsL cs)) : RowC w base v cs := by
  rcases h.2 with ⟨rfl, h0⟩ | ⟨g, cap, cur, rfl, hb, hg, h1, h2, h3, h4⟩
  · exact .inl ⟨rfl, List.length_eq_zero_iff.1 h0⟩
  · exact .inr ⟨g, cap, rfl, hb, lt_of_block hg, h1, h2, holds_of_block hg h4⟩
theorem holdsK_same {w w' : World} {g : Nat} {d : Array Cl} (h : HoldsK cellL 4 w g 0 d) (hb : w'.heap[g]? = w.heap[g]?) : HoldsK cellL 4 w' g 0 d := by
  intro j hj
  obtain ⟨h1, h2⟩ := h j hj
  exact ⟨(World.cell?_of_block (w := w) (a := ⟨g, 0 + j, none⟩) hb).trans h1, (World.frozen?_of_block (w := w) (a := ⟨g, 0 + j, none⟩) hb).trans h2⟩
theorem RowC.turned {w w' : World} {base : Nat} {v : Value} {cs : List Cl} {L : List Nat} (h : RowC w base v cs) (t : Stirred L w w') (hL : ∀ k ∈ L, k < base) : RowC w' base v cs := by
  rcases h with h | ⟨g, cap, rfl, hb, hg, h1, h2, h3⟩
  · exact .inl h
  · exact .inr ⟨g, cap, rfl, hb, Nat.lt_of_lt_of_le hg t.size, h1, h2, holdsK_same h3 (t.block g hg (fun hm => by have := hL g hm; omega))⟩
theorem RowC.below {w w' : World} {base B : Nat} {v : Value} {cs : List Cl} (h : RowC w base v cs) (k : Below B w w') (hB : w.heap.size ≤ B) : RowC w' base v cs := by
  rcases h with h | ⟨g, cap, rfl, hb, hg, h1, h2, h3⟩
  · exact .inl h
  · exact .inr ⟨g, cap, rfl, hb, Nat.lt_of_lt_of_le hg k.size, h1, h2, holdsK_same h3 (k.block g (by omega))⟩
theorem RowC.mono {w : World} {base base' : Nat} {v : Value} {cs : List Cl} (h : RowC w base v cs) (hb : base' ≤ base) : RowC w base' v cs := by
  rcases h with h | ⟨g, cap, rfl, hb', r⟩
  · exact .inl h
  · exact .inr ⟨g, cap, rfl, Nat.le_trans hb hb', r⟩
theorem isAgg42 (w : World) : (isAgg 42).run Try.prog w = .ok true w := by kernel_rfl
theorem sizeOf42 (w : World) : (Go.sizeOf 42).run Try.prog w = .ok 4 w := by kernel_rfl
theorem cellL_one (x : Cl) : ∀ v ∈ cellL x, v.oneCell' = true := by
  intro v hv
  simp [cellL] at hv
  rcases hv with rfl | rfl | rfl | rfl <;> rfl
theorem below_sortWorld {w : World} {blk n B : Nat} {d : Array Cl} {os : Array Obj} (hB : B ≤ blk) (hb : blk < w.heap.size) : Below B w (sortWorldK cellL 4 w blk 0 n d os) := by
  have hs : (putRowK cellL 4 (Sort.ahead w n) blk 0 d).heap.size = w.heap.size := by simp [putRowK, putRow, mapBlock, Sort.ahead]
  refine ⟨rfl, rfl, rfl, by unfold sortWorldK; rw [size_grow, hs]; omega, fun k hk => ?_⟩
  unfold sortWorldK
  rw [heap_grow_old _ _ (by rw [hs]; omega)]
  show ((Sort.ahead w n).heap.modify blk _)[k]? = w.heap[k]?
  rw [Array.getElem?_modify]
  rw [if_neg (by omega)]
  rfl
set_option maxRecDepth 100000 in
theorem sort_any (base : Nat) (v : Value) (cs : List Cl) (σ : Tab) (w : World) (hr : RowC w base v cs) (ha : AllOf σ cs) (hl : cs.length ≤ 1000) :
    Calls Try.prog 56 #[v, .func (.func 15) #[] #[]] w fun e w' => e = .returned (.tuple #[]) ∧ ∃ ds, InOrd σ ds ∧ ds.length = cs.length ∧ RowC w' base v ds ∧ Below base w w' := by
  rcases hr with ⟨rfl, rfl⟩ | ⟨g, cap, rfl, hb, hg, h1, h2, h3⟩
  · refine (AnyF.slices_SortFunc_none (ρ := laysSort_ren) laysSort none 0 (.func (.func 15) #[] #[]) w).mono ?_
    rintro e w' ⟨rfl, rfl⟩
    exact ⟨rfl, [], inOrd_short ha.2 (by simp), rfl, .inl ⟨rfl, rfl⟩, Below.refl _ _⟩
  · have eg : ∀ args w, (callFunc 15 args).run Try.prog w = .ok (.enter 15 args) w := enters_of Try.func15 (by kernel_rfl) rfl
    have hcon := AnyQ.slices_SortFunc (ρ := laysSort_ren) laysSort 4 isAgg42 sizeOf42 cellL (fun _ => rfl) cellL_one cmpC (by rw [ltOf_cmpC]; exact swo_ltC) 15 #[] g 0 cap cs.toArray w eg (cmpLays g 0 _ w) h3 hg (by rw [List.size_toArray]; omega)
    rw [ltOf_cmpC, List.size_toArray] at hcon
    refine hcon.mono ?_
    rintro e w' ⟨rfl, d', n, os, hp, hs, rfl⟩
    have hsz : d'.size = cs.length := by have := hp.1; simpa using this
    have hlen : d'.toList.length = cs.length := by simpa using hsz
    refine ⟨rfl, d'.toList, inOrd_of_sorted ha.1 ha.2 (by simpa using hp) (by simpa using hs), hlen, .inr ⟨g, cap, by rw [hlen], hb, ?_, by rw [hlen]; exact h1, h2, ?_⟩, below_sortWorld hb hg⟩
    · have := (below_sortWorld (w := w) (n := n) (d := d') (os := os) (Nat.le_refl g) hg).size
      omega
    · have h5 : HoldsK cellL 4 (putRowK cellL 4 (Sort.ahead w n) g 0 d') g 0 d' := holdsK_putRowK cellL 4 (Sort.ahead w n) g 0 cs.toArray d' (holdsK_ahead _ _ _ _ _ _ _ h3) (by rw [List.size_toArray]; exact hsz)
      have h6 := holdsK_grow cellL 4 (putRowK cellL 4 (Sort.ahead w n) g 0 d') os g 0 d' (by simp [putRowK, putRow, mapBlock, Sort.ahead]; exact hg) h5
      simpa [sortWorldK] using h6
end Go.Proofs.Ytpfihhilgeihoaa
