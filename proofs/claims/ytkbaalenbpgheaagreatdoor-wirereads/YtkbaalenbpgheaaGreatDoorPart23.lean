/- Texts of this proof, one behind the other. -/
import Derived.Test.YtkbaalenbpgheaaGreatDoorPart22
/- Cells in a row of memory: the program's own sort of them. -/
namespace Go.Proofs.YtkbaalenbpgheaaGreatDoor
open Go.RowKit Go.Sort
set_option linter.unusedSectionVars false
variable [Inhabited Cl]
set_option maxRecDepth 100000 in
theorem sort_any (base : Nat) (v : Value) (cs : List Cl) (σ : Tab) (w : World) (hr : RowC w base v cs) (ha : AllOf σ cs) (hl : cs.length ≤ 1000) :
    Calls Tryz.prog 108 #[v, .func (.func 62) #[] #[]] w fun e w' => e = .returned (.tuple #[]) ∧ ∃ ds, InOrd σ ds ∧ ds.length = cs.length ∧ RowC w' base v ds ∧ Below base w w' := by
  rcases hr with ⟨rfl, rfl⟩ | ⟨g, cap, rfl, hb, hg, h1, h2, h3⟩
  · refine (AnyF.slices_SortFunc_none (ρ := laysSort_ren) laysSort none 0 (.func (.func 62) #[] #[]) w).mono ?_
    rintro e w' ⟨rfl, rfl⟩
    exact ⟨rfl, [], inOrd_short ha.2 (by simp), rfl, .inl ⟨rfl, rfl⟩, Below.refl _ _⟩
  · have eg : ∀ args w, (callFunc 62 args).run Tryz.prog w = .ok (.enter 62 args) w := enters_of Tryz.func62 (by kernel_rfl) rfl
    have hcon := AnyQ.slices_SortFunc (ρ := laysSort_ren) laysSort 4 isAgg42 sizeOf42 cellL (fun _ => rfl) cellL_one cmpC (by rw [ltOf_cmpC]; exact swo_ltC) 62 #[] g 0 cap cs.toArray w eg (cmpLays g 0 _ w) h3 hg (by rw [List.size_toArray]; omega)
    rw [ltOf_cmpC, List.size_toArray] at hcon
    refine hcon.mono ?_
    rintro e w' ⟨rfl, d', n, os, hp, hs, rfl⟩
    have hsz : d'.size = cs.length := by have := hp.1; simpa using this
    have hlen : d'.toList.length = cs.length := by simpa using hsz
    refine ⟨rfl, d'.toList, inOrd_of_sorted ha.1 ha.2 (by simpa using hp) (by simpa using hs), hlen, .inr ⟨g, cap, by rw [hlen], hb, ?_, by rw [hlen]; exact h1, h2, ?_⟩, below_sortWorld hb hg⟩
    · have := (below_sortWorld (w := w) (n := n) (d := d') (os := os) (Nat.le_refl g) hg).size
      omega
    · have h5 : HoldsK cellL 4 (putRowK cellL 4 (Sort.ahead w n) g 0 d') g 0 d' := holdsK_putRowK cellL 4 (Sort.ahead w n) g 0 cs.toArray d' (holdsK_ahead _ _ _ _ _ _ _ h3) (by rw [List.size_toArray]; exact hsz)
      have h6 := holdsK_grow cellL 4 (putRowK cellL 4 (Sort.ahead w n) g 0 d') os g 0 d' (by simp [putRowK, putRow, mapBlock, Sort.ahead]; exact hg) h5
      simpa [sortWorldK] using h6
end Go.Proofs.YtkbaalenbpgheaaGreatDoor

/- A table's rows, in order: SortedFunc, and the program's own Cells. -/
namespace Go.Proofs.YtkbaalenbpgheaaGreatDoor
open Go.RowKit Go.Maps Go.Sort
attribute [local go_sem ↓] Go.wp_at_zero Go.wp_at_succ
set_option linter.unusedSectionVars false
variable [Inhabited Cl]
theorem seq_any (b : Nat) (ty : TypeId) (pre : Array Value) (mo : Option Nat) (n : Nat) (σ : Tab) (w : World) (hV : TabV w b ty pre mo n σ) :
    ∃ N, N ≤ n ∧ SeqGives Fence.wide 1 Tryz.prog 109 #[.pointer (some ⟨w.heap.size, 0, none⟩)] cellV (fun cs => AllOf σ cs ∧ cs.length ≤ N) N (w.alloc (.cells #[.map mo] 86)) := by
  cases mo with
  | none =>
    rw [hV.none rfl]
    exact ⟨0, Nat.zero_le _, values_gives_nil Fence.wide 1 trivial rfl w.heap.size _ (by simp) (by simp)⟩
  | some m =>
    obtain ⟨D, ho, hR⟩ := hV.held m rfl
    exact ⟨Maps.size D, ho.size_le, values_gives Fence.wide 1 trivial rfl (Nat.le_refl _) w.heap.size m n D σ hR _ (by simp) (by simp) (ho.alloc _)⟩
set_option maxRecDepth 100000 in
set_option maxHeartbeats 1000000 in
theorem sorted_any (b : Nat) (ty : TypeId) (pre : Array Value) (mo : Option Nat) (n : Nat) (σ : Tab) (w : World) (hn : n ≤ 1000) (hV : TabV w b ty pre mo n σ) :
    Calls Tryz.prog 76 #[.func (.func 109) #[] #[.pointer (some ⟨w.heap.size, 0, none⟩)], .func (.func 62) #[] #[]] (w.alloc (.cells #[.map mo] 86)) fun e w' => ∃ v ds, e = .returned v ∧ InOrd σ ds ∧ ds.length ≤ n ∧ RowC w' (w.heap.size + 1) v ds ∧ Below (w.heap.size + 1) (w.alloc (.cells #[.map mo] 86)) w' := by
  obtain ⟨N, hN, hseq⟩ := seq_any b ty pre mo n σ w hV
  have C := hide (callsIn_wide.1 (collect_in Fence.wide 3 trivial trivial rfl (by omega) 109 #[.pointer (some ⟨w.heap.size, 0, none⟩)] trivial (enters_of Tryz.func109 (by kernel_rfl) rfl) _ N (by omega) (w.alloc (.cells #[.map mo] 86)) hseq))
  have hs : (w.alloc (.cells #[.map mo] 86)).heap.size = w.heap.size + 1 := by simp
  rw [hs] at C
  generalize w.alloc (.cells #[.map mo] 86) = W at C hs hseq ⊢
  clear hseq hV hs
  go_enter Tryz.func76, Tryz.ntmps76
  go_wp2_with (first
    | (go_at_call 107; (with_reducible refine C.out.mono ?_); rintro e w1 ⟨v, cs, rfl, ⟨ha, hl⟩, hrow, hnil, hb1⟩
       have S := hide (sort_any (w.heap.size + 1) v cs σ w1 (RowC.of_owns hrow) ha (by omega)))
    | (go_at_call 108; (with_reducible refine S.out.mono ?_); rintro e w2 ⟨rfl, ds, ho, hn2, hr, hb2⟩))
  go_ret
  exact ⟨v, ds, rfl, ho, by omega, hr, hb1.trans hb2⟩
set_option maxRecDepth 100000 in
set_option maxHeartbeats 1000000 in
/-- Cells: all rows, in order, in memory of the call's own. -/
theorem cells_any (b : Nat) (ty : TypeId) (pre : Array Value) (mo : Option Nat) (n : Nat) (σ : Tab) (w : World) (hn : n ≤ 1000) (hV : TabV w b ty pre mo n σ) :
    Calls Tryz.prog 46 #[.pointer (some ⟨b, pre.size, none⟩)] w fun e w' => ∃ v ds, e = .returned v ∧ InOrd σ ds ∧ ds.length ≤ n ∧ RowC w' w.heap.size v ds ∧ Below w.heap.size w w' := by
  have hq := ptr_nil b pre.size
  have c1 : w.cell? ⟨b, pre.size, none⟩ = some (.map mo) := hV.cell
  have K := hide (callsIn_wide.1 (values_in Fence.wide 1 trivial rfl mo w))
  have S := hide (sorted_any b ty pre mo n σ w hn hV)
  have bel : Below w.heap.size w (w.alloc (.cells #[.map mo] 86)) := (Below.refl _ w).alloc (Nat.le_refl _) _
  clear hV
  go_enter Tryz.func46, Tryz.ntmps46
  go_wp2_with (first
    | (go_at_call 77; (with_reducible refine K.out.mono ?_); rintro e w1 ⟨rfl, rfl⟩)
    | (go_at_call 76; (with_reducible refine S.out.mono ?_); rintro e w2 ⟨v, ds, rfl, ho, hn2, hr, hb2⟩))
  go_ret
  exact ⟨v, ds, rfl, ho, hn2, hr.mono (by omega), bel.trans (hb2.mono (by omega))⟩
end Go.Proofs.YtkbaalenbpgheaaGreatDoor

/- A source's vault, and its rows. -/
namespace Go.Proofs.YtkbaalenbpgheaaGreatDoor
open Go.RowKit Go.Sort
attribute [local go_sem ↓] Go.wp_at_zero Go.wp_at_succ
set_option linter.unusedSectionVars false
set_option maxRecDepth 100000 in
set_option maxHeartbeats 1000000 in
theorem srcVault_any (B : Nat) (w : World) (sb fb vb : Nat) (mt mv : Option Nat) (v : Value) (nt nv : Nat) (sec : ByteArray) (σ : Kept) (τ : Tab) (rs : List Rec) (h : Src B w sb fb vb mt mv v nt nv sec σ τ rs) :
    Calls Tryz.prog 20 #[.pointer (some ⟨sb, 0, none⟩)] w fun x w' => x = .returned (.pointer (some ⟨vb, 0, none⟩)) ∧ w' = w := by
  have hq := ptrS_nil sb
  have c0 : w.cell? ⟨sb, 0, none⟩ = some (.pointer (some ⟨vb, 0, none⟩)) := h.tab.row.cell 0
  clear h
  go_enter Tryz.func20, Tryz.ntmps20
  go_wp2
  go_ret
  exact ⟨rfl, rfl⟩
section
variable [Inhabited Cl]
set_option maxRecDepth 100000 in
set_option maxHeartbeats 1000000 in
theorem srcCells_any (B : Nat) (w : World) (sb fb vb : Nat) (mt mv : Option Nat) (v : Value) (nt nv : Nat) (sec : ByteArray) (σ : Kept) (τ : Tab) (rs : List Rec) (h : Src B w sb fb vb mt mv v nt nv sec σ τ rs) (hn : nt ≤ 1000) :
    Calls Tryz.prog 16 #[.pointer (some ⟨sb, 0, none⟩)] w fun x w' => ∃ u ds, x = .returned u ∧ InOrd τ ds ∧ ds.length ≤ nt ∧ RowC w' w.heap.size u ds ∧ Below w.heap.size w w' := by
  have hq := ptrS_nil sb
  have C0 := cells_any sb 95 #[.pointer (some ⟨vb, 0, none⟩), .pointer (some ⟨fb, 0, none⟩)] mt nt τ w hn h.tab
  rw [show (#[Value.pointer (some ⟨vb, 0, none⟩), Value.pointer (some ⟨fb, 0, none⟩)] : Array Value).size = 2 from rfl] at C0
  have C := hide C0
  clear C0
  clear h
  go_enter Tryz.func16, Tryz.ntmps16
  go_wp2_with (go_at_call 46; (with_reducible refine C.out.mono ?_); rintro x w1 ⟨u, ds, rfl, ho, hl, hr, hb⟩)
  go_ret
  exact ⟨u, ds, rfl, ho, hl, hr, hb⟩
end
end Go.Proofs.YtkbaalenbpgheaaGreatDoor
