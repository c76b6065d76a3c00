/- Texts of this proof, one behind the other. -/
import Derived.Test.YtedcbjefkhgiiabGreatDoorPart14
/- A table's rows, in order: SortedFunc, and the program's own Cells. -/
namespace Go.Proofs.YtedcbjefkhgiiabGreatDoor
open Go.RowKit Go.Maps Go.Sort
attribute [local go_sem ↓] Go.wp_at_zero Go.wp_at_succ
set_option linter.unusedSectionVars false
variable [Inhabited Cl]
theorem seq_any (b : Nat) (mo : Option Nat) (n : Nat) (σ : Tab) (w : World) (hV : TabV w b mo n σ) :
    ∃ N, N ≤ n ∧ SeqGives Fence.wide 1 Tryz.prog 90 #[.pointer (some ⟨w.heap.size, 0, none⟩)] cellV (fun cs => AllOf σ cs ∧ cs.length ≤ N) N (w.alloc (.cells #[.map mo] 28)) := by
  cases mo with
  | none =>
    rw [hV.none rfl]
    exact ⟨0, Nat.zero_le _, values_gives_nil Fence.wide 1 trivial rfl w.heap.size _ (by simp) (by simp)⟩
  | some m =>
    obtain ⟨D, ho, hR⟩ := hV.held m rfl
    exact ⟨Maps.size D, ho.size_le, values_gives Fence.wide 1 trivial rfl (Nat.le_refl _) w.heap.size m n D σ hR _ (by simp) (by simp) (ho.alloc _)⟩
set_option maxRecDepth 100000 in
set_option maxHeartbeats 1000000 in
theorem sorted_any (b : Nat) (mo : Option Nat) (n : Nat) (σ : Tab) (w : World) (hn : n ≤ 1000) (hV : TabV w b mo n σ) :
    Calls Tryz.prog 57 #[.func (.func 90) #[] #[.pointer (some ⟨w.heap.size, 0, none⟩)], .func (.func 59) #[] #[]] (w.alloc (.cells #[.map mo] 28)) fun e w' => ∃ v ds, e = .returned v ∧ InOrd σ ds ∧ ds.length ≤ n ∧ RowC w' (w.heap.size + 1) v ds ∧ Below (w.heap.size + 1) (w.alloc (.cells #[.map mo] 28)) w' := by
  obtain ⟨N, hN, hseq⟩ := seq_any b mo n σ w hV
  have C := hide (callsIn_wide.1 (collect_in Fence.wide 3 trivial trivial rfl (by omega) 90 #[.pointer (some ⟨w.heap.size, 0, none⟩)] trivial (enters_of Tryz.func90 (by kernel_rfl) rfl) _ N (by omega) (w.alloc (.cells #[.map mo] 28)) hseq))
  have hs : (w.alloc (.cells #[.map mo] 28)).heap.size = w.heap.size + 1 := by simp
  rw [hs] at C
  generalize w.alloc (.cells #[.map mo] 28) = W at C hs hseq ⊢
  clear hseq hV hs
  go_enter Tryz.func57, Tryz.ntmps57
  go_wp2_with (first
    | (go_at_call 88; (with_reducible refine C.out.mono ?_); rintro e w1 ⟨v, cs, rfl, ⟨ha, hl⟩, hrow, hnil, hb1⟩
       have S := hide (sort_any (w.heap.size + 1) v cs σ w1 (RowC.of_owns hrow) ha (by omega)))
    | (go_at_call 89; (with_reducible refine S.out.mono ?_); rintro e w2 ⟨rfl, ds, ho, hn2, hr, hb2⟩))
  go_ret
  exact ⟨v, ds, rfl, ho, by omega, hr, hb1.trans hb2⟩
set_option maxRecDepth 100000 in
set_option maxHeartbeats 1000000 in
/-- Cells: all rows, in order, in memory of the call's own. -/
theorem cells_any (b : Nat) (mo : Option Nat) (n : Nat) (σ : Tab) (w : World) (hn : n ≤ 1000) (hV : TabV w b mo n σ) :
    Calls Tryz.prog 15 #[.pointer (some ⟨b, 0, none⟩)] w fun e w' => ∃ v ds, e = .returned v ∧ InOrd σ ds ∧ ds.length ≤ n ∧ RowC w' w.heap.size v ds ∧ Below w.heap.size w w' := by
  have hq := ptr_nil b
  have c1 : w.cell? ⟨b, 0, none⟩ = some (.map mo) := hV.row.cell 0
  have K := hide (callsIn_wide.1 (values_in Fence.wide 1 trivial rfl mo w))
  have S := hide (sorted_any b mo n σ w hn hV)
  have bel : Below w.heap.size w (w.alloc (.cells #[.map mo] 28)) := (Below.refl _ w).alloc (Nat.le_refl _) _
  clear hV
  go_enter Tryz.func15, Tryz.ntmps15
  go_wp2_with (first
    | (go_at_call 58; (with_reducible refine K.out.mono ?_); rintro e w1 ⟨rfl, rfl⟩)
    | (go_at_call 57; (with_reducible refine S.out.mono ?_); rintro e w2 ⟨v, ds, rfl, ho, hn2, hr, hb2⟩))
  go_ret
  exact ⟨v, ds, rfl, ho, hn2, hr.mono (by omega), bel.trans (hb2.mono (by omega))⟩
end Go.Proofs.YtedcbjefkhgiiabGreatDoor

/- Events in a row of memory, as a law is handed them; which are few, and short. -/
namespace Go.Proofs.YtedcbjefkhgiiabGreatDoor
open Go.RowKit Go.Sort
attribute [local go_sem ↓] Go.wp_at_zero Go.wp_at_succ
def ev0 : Ev := ⟨0, ByteArray.empty, ByteArray.empty, ByteArray.empty, ByteArray.empty⟩
set_option linter.unusedSectionVars false
variable [Inhabited Cl] [Inhabited Ev]
/-- The events lie in the row that a slice names. -/
def EvRow (w : World) (v : Value) (es : List Ev) : Prop :=
  ((∃ ao cap, v = .slice ao 0 cap) ∧ es = []) ∨ ∃ b off cap, v = .slice (some ⟨b, off, none⟩) es.length cap ∧ es.length ≤ cap ∧ b < w.heap.size ∧ ∀ j, j < es.length → ∀ i u, (evL es[j]!)[i]? = some u → w.cell? ⟨b, off + j * 5 + i, none⟩ = some u
theorem EvRow.turned {w w' : World} {v : Value} {es : List Ev} {B : Nat} (h : EvRow w v es) (k : Below B w w') (hB : w.heap.size ≤ B) : EvRow w' v es := by
  rcases h with h | ⟨b, off, cap, rfl, hc, hb, hx⟩
  · exact .inl h
  · exact .inr ⟨b, off, cap, rfl, hc, Nat.lt_of_lt_of_le hb k.size, fun j hj i u hu => (k.cell (p := ⟨b, off + j * 5 + i, none⟩) (Nat.lt_of_lt_of_le hb hB)).trans (hx j hj i u hu)⟩
theorem EvRow.stirred {w w' : World} {v : Value} {es : List Ev} {L : List Nat} (h : EvRow w v es) (k : Stirred L w w') (hL : ∀ b, v.ownBlock = some b → b ∉ L) : EvRow w' v es := by
  rcases h with h | ⟨b, off, cap, rfl, hc, hb, hx⟩
  · exact .inl h
  · exact .inr ⟨b, off, cap, rfl, hc, Nat.lt_of_lt_of_le hb k.size, fun j hj i u hu => (k.cell (p := ⟨b, off + j * 5 + i, none⟩) hb (hL b rfl)).trans (hx j hj i u hu)⟩
theorem EvRow.slice {w : World} {v : Value} {es : List Ev} (h : EvRow w v es) : ∃ ao cap, v = .slice ao es.length cap := by
  rcases h with ⟨⟨ao, cap, rfl⟩, rfl⟩ | ⟨b, off, cap, rfl, _⟩
  · exact ⟨_, _, rfl⟩
  · exact ⟨_, _, rfl⟩
theorem EvRow.spot {w : World} {ao : Option Addr} {n cap : Nat} {es : List Ev} {k : Nat} (h : EvRow w (.slice ao n cap) es) (hk : k < es.length) : ∃ b off, ao = some ⟨b, off, none⟩ ∧ es.length ≤ cap ∧ ∀ i u, (evL es[k]!)[i]? = some u → w.cell? ⟨b, off + k * 5 + i, none⟩ = some u := by
  rcases h with ⟨_, rfl⟩ | ⟨b, off, cap', hv, hc, hb, hx⟩
  · simp at hk
  · simp only [Value.slice.injEq] at hv
    exact ⟨b, off, hv.1, by rw [hv.2.2]; exact hc, hx k hk⟩
end Go.Proofs.YtedcbjefkhgiiabGreatDoor
