/- The library's Clone and DeleteFunc, of cells: what a closure of the law's names is left out. -/
import Derived.Test.YtpfihhilgeihoaaFar
import Derived.Laws.IdiomCopy
namespace Go.Proofs.Ytpfihhilgeihoaa
open Go.RowKit Go.Sort
attribute [local go_sem ↓] Go.wp_at_zero Go.wp_at_succ
set_option linter.unusedSectionVars false
variable [Inhabited Cl] [Inhabited Ev]
theorem cellsL_len : ∀ cs : List Cl, (cellsL cs).length = cs.length * 4
  | [] => rfl
  | c :: cs => by
    have ih := cellsL_len cs
    have e : cellsL (c :: cs) = cellL c ++ cellsL cs := rfl
    have e4 : (cellL c).length = 4 := rfl
    rw [e, List.length_append, ih, e4, List.length_cons]
    omega
/-- slices.Clone. -/
theorem clone_any (b : Nat) (v : Value) (cs : List Cl) (w : World) (h : RowC w b v cs) (hl : cs.length ≤ 1000) :
    Calls Try.prog 26 #[v] w fun x w' => ∃ u, x = .returned u ∧ w'.ownsRow w.heap.size 42 4 u cs.length (cellsL cs) ∧ Below w.heap.size w w' := by
  obtain ⟨i0, hi, hz0, hz1, hz2⟩ := info_parts info42
  rcases h with ⟨rfl, rfl⟩ | ⟨g, cap, rfl, _, hg, hc, _, H⟩
  · refine (AnyE.slices_Clone_nil (ρ := laysClone_ren) laysClone 0 0 w).mono ?_
    rintro x w' ⟨rfl, rfl⟩
    exact ⟨_, rfl, World.ownsRow_nil _ _ _ _, Below.refl _ _⟩
  · have hlen := cellsL_len cs
    refine (AnyE.slices_Clone (ρ := laysClone_ren) laysClone i0 (cellV cl0) 4 64 hi hz0 hz1 hz2 rfl (by omega) sizeOf42 g 0 cs.length cap (cellsL cs) w hlen (by unfold maxLen; omega) (by omega) ?_ ?_).mono ?_
    · intro j u hj
      have hj4 : j < cs.length * 4 := by
        have := (List.getElem?_eq_some_iff.1 hj).1
        omega
      have h1 := (H j (by rw [size_flatK, List.size_toArray]; exact hj4)).1
      rw [get_flatK _ _ _ _ (by rw [List.size_toArray]; exact hj4)] at h1
      rw [cellsL_at cs j hj4] at hj
      rw [h1]
      exact hj
    · intro u hu
      unfold cellsL at hu
      obtain ⟨c, _, hc⟩ := List.mem_flatMap.1 hu
      exact cellL_one c u hc
    · rintro x w' ⟨u, rfl, ho, _, hb⟩
      exact ⟨u, rfl, ho, hb⟩
/-- Cells at a place. -/
def hereC (t r : ByteArray) (c : Cl) : Bool := decide (c.t = t) && decide (c.r = r)
set_option maxRecDepth 100000 in
set_option maxHeartbeats 1000000 in
theorem here_any (t r : ByteArray) (c : Cl) (E : Nat) (W : World) (hT : W.cell? ⟨E, 2, none⟩ = some (.string t)) (hR : W.cell? ⟨E, 3, none⟩ = some (.string r)) :
    Calls Try.prog 27 #[.agg #[.string c.t, .string c.r, .string c.s, .string c.v], .pointer (some ⟨E, 0, none⟩)] W fun x w' => x = .returned (.bool (hereC t r c)) ∧ Below W.heap.size W w' := by
  have hE : E < W.heap.size := block_lt_of_cell hT
  unfold hereC
  have s1 := same_bytes c.t t
  have s2 := same_bytes c.r r
  have bel : Below W.heap.size W (W.alloc (.cells #[.string c.t, .string c.r, .string c.s, .string c.v] 42)) := (Below.refl _ W).alloc (Nat.le_refl _) _
  cases d1 : decide (c.t = t)
  · rw [d1] at s1
    go_enter Try.func27, Try.ntmps27
    go_wp2
    go_ret
    exact ⟨ret_val (by simp), bel⟩
  · rw [d1] at s1
    generalize decide (c.r = r) = q at s2 ⊢
    go_enter Try.func27, Try.ntmps27
    go_wp2
    go_ret
    exact ⟨ret_val (by simp), bel⟩
theorem here_pred (t r : ByteArray) (E : Nat) (w : World) (hT : w.cell? ⟨E, 2, none⟩ = some (.string t)) (hR : w.cell? ⟨E, 3, none⟩ = some (.string r)) :
    PredBelow Try.prog 27 #[.pointer (some ⟨E, 0, none⟩)] (fun x => .agg (cellL x).toArray) (hereC t r) w := fun W x hb => by
  have hE : E < w.heap.size := block_lt_of_cell hT
  exact (here_any t r x E W ((hb.cell (p := ⟨E, 2, none⟩) hE).trans hT) ((hb.cell (p := ⟨E, 3, none⟩) hE).trans hR)).mono fun _ _ ⟨he, h⟩ => ⟨he, hb.trans (h.mono hb.size)⟩
/-- Some of a row have been looked at: those that stay lie ahead, the others as they were. -/
structure Struck (p : Cl → Bool) (cs : List Cl) (cap i j : Nat) (cur : Array Value) : Prop where
  size : cur.size = cap * 4
  lt : i < j
  le : j ≤ cs.length
  len : ((cs.take j).filter fun c => !p c).length = i
  kept : cur.toList.take (i * 4) = cellsL ((cs.take j).filter fun c => !p c)
  rest : ∀ a, j ≤ a → a < cs.length → ∀ c u, (cellL cs[a]!)[c]? = some u → cur[a * 4 + c]? = some u
theorem take_snocC (cs : List Cl) (k : Nat) (h : k < cs.length) : cs.take (k + 1) = cs.take k ++ [cs[k]!] := by
  rw [List.take_succ_eq_append_getElem h, getElem!_pos cs k h]
theorem Struck.skip {p : Cl → Bool} {cs : List Cl} {cap i j : Nat} {cur : Array Value} (h : Struck p cs cap i j cur) (hj : j < cs.length) (hp : p cs[j]! = true) : Struck p cs cap i (j + 1) cur := by
  have e : (cs.take (j + 1)).filter (fun c => !p c) = (cs.take j).filter fun c => !p c := by
    rw [take_snocC cs j hj, List.filter_append]
    generalize cs[j]! = x at hp
    simp [hp]
  have := h.lt
  exact ⟨h.size, by omega, by omega, by rw [e]; exact h.len, by rw [e]; exact h.kept, fun a ha => h.rest a (by omega)⟩
theorem Struck.keep {p : Cl → Bool} {cs : List Cl} {cap i j : Nat} {cur : Array Value} (h : Struck p cs cap i j cur) (hj : j < cs.length) (hc : cs.length ≤ cap) (hp : p cs[j]! = false) :
    Struck p cs cap (i + 1) (j + 1) (cur.toList.take (i * 4) ++ cellL cs[j]! ++ cur.toList.drop (i * 4 + (cellL cs[j]!).length)).toArray := by
  have hs := h.size
  have hl := h.lt
  have e : (cs.take (j + 1)).filter (fun c => !p c) = ((cs.take j).filter fun c => !p c) ++ [cs[j]!] := by
    rw [take_snocC cs j hj, List.filter_append]
    generalize cs[j]! = x at hp
    simp [hp]
  have h4 : (cellL cs[j]!).length = 4 := rfl
  have ht : (cur.toList.take (i * 4)).length = i * 4 := by rw [List.length_take, Array.length_toList]; omega
  refine ⟨?_, by omega, by omega, by rw [e, List.length_append, h.len]; rfl, ?_, fun a ha ha2 c u hu => ?_⟩
  · rw [List.size_toArray, List.length_append, List.length_append, ht, List.length_drop, Array.length_toList]
    show i * 4 + 4 + (cur.size - (i * 4 + 4)) = cap * 4
    omega
  · have e2 : (i + 1) * 4 = (cur.toList.take (i * 4) ++ cellL cs[j]!).length := by rw [List.length_append, ht, h4]; omega
    rw [List.toList_toArray, e2, List.take_left, e, cellsL_snoc, h.kept]
  · have hc4 : c < 4 := (List.getElem?_eq_some_iff.1 hu).1
    rw [List.getElem?_toArray, List.getElem?_append_right (by rw [List.length_append, ht, h4]; omega), List.getElem?_drop, List.length_append, ht, h4]
    have := h.rest a (by omega) ha2 c u hu
    rw [← Array.getElem?_toList] at this
    rw [← this]
    congr 1
    omega
theorem clear42 (w : World) (ty : TypeId) (g o n c : Nat) (hn : 0 < n) (cur : Array Value) (hg : HasR w g 42 cur) (hs : o + n * 4 ≤ cur.size) :
    ∃ vs : List Value, vs.length = n * 4 ∧ (Builtin.clear_ #[38] ty #[.slice (some ⟨g, o, none⟩) n c]).run Try.prog w = .ok (.tuple #[]) (w.setCells g o vs) := by
  have hz4 : (cellV cl0).cells.size = 4 := rfl
  have hlen : (Builtin.zeroCells (cellV cl0).cells n).toList.length = n * 4 := by simp [Builtin.zeroCells, hz4]
  refine ⟨_, hlen, ?_⟩
  have hst := run_storeCells_cells (P := Try.prog) g o (Builtin.zeroCells (cellV cl0).cells n).toList 0 w
    (fun j hj => by
      rw [HasR.cell hg, Array.getElem?_eq_getElem (by omega)]
      rfl)
    (fun j _ => HasR.free hg _)
    (fun v hv => by
      simp only [Builtin.zeroCells, Array.toList_map, List.mem_map] at hv
      obtain ⟨i, _, rfl⟩ := hv
      have h4 : i % (cellV cl0).cells.size < 4 := by rw [hz4]; omega
      generalize i % (cellV cl0).cells.size = k at h4
      match k, h4 with
      | 0, _ => rfl
      | 1, _ => rfl
      | 2, _ => rfl
      | 3, _ => rfl)
  simp only [Nat.add_zero] at hst
  obtain ⟨m, rfl⟩ : ∃ m, n = m + 1 := ⟨n - 1, by omega⟩
  have hst2 : Sem.run Try.prog (storeCells ⟨g, o, none⟩ (Builtin.zeroCells (Value.agg #[.string ⟨#[]⟩, .string ⟨#[]⟩, .string ⟨#[]⟩, .string ⟨#[]⟩]).cells (m + 1)).toList) w = _ := hst
  simp [Builtin.clear_, run_underlying Try.underlying38, hst2]
end Go.Proofs.Ytpfihhilgeihoaa
