/- The program's own Subjects: all that have a key, in order. -/
import Derived.Test.YtdoakaadpfheaaaDoorRefSubjects
namespace Go.Proofs.YtdoakaadpfheaaaDoor
open Go.RowKit Go.Maps Go.Sort
attribute [local go_sem ↓] Go.wp_at_zero Go.wp_at_succ
set_option maxRecDepth 100000 in
set_option maxHeartbeats 1000000 in
theorem subjects_none (b : Nat) (sec : ByteArray) (w : World) (hr : HasR w b 105 #[.string sec, .map none]) :
    Calls Tryd.prog 41 #[.pointer (some ⟨b, 0, none⟩)] w fun e w' => e = .returned (.slice none 0 0) ∧ Below w.heap.size w w' := by
  have c1 : w.cell? ⟨b, 1, none⟩ = some (.map none) := hr.cell 1
  have hrg := run_range_nilMap (P := Tryd.prog) w 103 9 107 Tryd.underlying103
  have hnx : ∀ ty, (Instr.next (.pointer (some ⟨w.heap.size, 0, none⟩)) false ty).run Tryd.prog (w.alloc (.mapIter none 0 #[] 0)) = _ := fun ty => run_next_nilMap _ ty 0 0 #[]
  clear hr
  go_enter Tryd.func41, Tryd.ntmps41
  go_wp2
  refine wp_loop_rounds 1 ?_
  rw [rounds_succ]
  go_wp2_with (go_at_call 66; refine (sort_none none 0 _).mono ?_; rintro e w' ⟨rfl, rfl⟩)
  go_ret
  exact ⟨rfl, (Below.refl _ _).alloc (Nat.le_refl _) _⟩
/-- A holding as the map has it. -/
structure Hold where
  n : Int
  k : ByteArray
def Hold.v (h : Hold) : Value := .agg #[.int .i64 h.n, .string h.k]
theorem invH : ∀ v y, holdElem v = some y → ∃ h : Hold, v = h.v := fun v y hv => by
  obtain ⟨n, s, rfl, _⟩ := holdElem_inv hv
  exact ⟨⟨n, s⟩, rfl⟩
theorem empty_of {k : ByteArray} (h : k.data.toList = []) : k = ByteArray.empty := by
  apply ByteArray.ext
  exact Array.toList_inj.1 h
set_option maxRecDepth 100000 in
set_option maxHeartbeats 1000000 in
theorem subjects_some (b m : Nat) (sec : ByteArray) (n : Nat) (σ : Kept) (w : World) (hn : n < 1000) (hV : ProgV w b (some m) sec n σ) :
    Calls Tryd.prog 41 #[.pointer (some ⟨b, 0, none⟩)] w fun e w' => ∃ v ts, e = .returned v ∧ InOrder σ ts ∧ ts.length ≤ 1000 ∧ w'.ownsRow w.heap.size 9 1 v ts.length (ts.map encStr) ∧ Below w.heap.size w w' := by
  obtain ⟨i0, hi0, hz0, hz1, hz2⟩ := info_parts Tryd.info9'
  have c1 : w.cell? ⟨b, 1, none⟩ = some (.map (some m)) := hV.row.cell 1
  obtain ⟨D, ho, hi⟩ := hV.held m rfl
  have hbl := ho.lt
  have hsz := ho.size_le
  have HI := hide hi
  clear hV hi
  go_enter Tryd.func41, Tryd.ntmps41
  go_wp2_with (first
    | (at_range; refine wpList_range_own _ rfl _ 103 rfl 9 107 law9 Tryd.underlying103 _ m n _ rfl ho ?_; intro w0 hrg0 hg0 hs0)
    | go_in)
  go_frame
  go_loopw [3] (fun v wr => ∃ (left : Lit → Bool) (cnt : Nat) (ss : List (List UInt8)), wr.ranges Tryd.prog 9 holdElem m w.heap.size n D left cnt ∧ ss.length + cnt ≤ Maps.size D ∧
      wr.ownsRow w.heap.size 9 1 v ss.length (ss.map encStr) ∧ Gathered σ left ss ∧ Below w.heap.size w wr)
    (fun _ wr => wr.rangeLeft m w.heap.size)
  case atStart =>
    exact ⟨_, _, [], hrg0, by simp, World.ownsRow_nil _ _ _ _, Gathered.start (HI.out.has (keyL_ne sec)), (Below.refl _ _).grown hg0 (Nat.le_refl _) (fun j hj => by cases hj)⟩
  case round =>
    obtain ⟨left, cnt, ss, hrg, hcs, hrow, hC, hnx⟩ := hrel
    go_wp2_with (first
      | (at_next; refine wpList_next_ranges _ rfl _ rfl 9 law9 holdElem encStr Hold.v invK invH m w.heap.size n _ _ _ rfl hrg ?_ ?_)
      | go_in)
    · -- nothing is left
      intro hc0 hl0
      have hord := hC.inOrder hl0
      rcases hrow.2 with ⟨rfl, h0⟩ | ⟨g, cap, cur, rfl, hbase, hb, h1, h2, h3, h4⟩
      · have hss : ss = [] := List.length_eq_zero_iff.1 h0
        subst hss
        go_wp2_with (go_at_call 66; refine (sort_none none 0 _).mono ?_; rintro e w' ⟨rfl, rfl⟩)
        go_ret
        exact ⟨_, _, rfl, hord, by simp, by simpa using World.ownsRow_nil _ _ _ _, hnx⟩
      · have hH : Holds encStr wr g 0 ss.toArray := holds_of_block hb (by simpa using h4)
        have hgl : g < wr.heap.size := (Array.getElem?_eq_some_iff.1 hb).1
        have hc := sort_any g cap ss wr hH hgl (by omega)
        go_wp2_with (go_at_call 66; refine hc.mono ?_; rintro e w' ⟨rfl, nn, os, rfl⟩)
        go_ret
        refine ⟨_, _, rfl, hord, by rw [List.length_mergeSort]; omega, ?_, hnx.grown (grownBy_sorted _) hnx.size (fun j hj => by cases hj; exact hbase)⟩
        have := ownsRow_sorted (n := nn) (os := os) (ss := ss) (ts := ss.mergeSort fun x y => decide (x ≤ y)) (by simp) hbase hb h1 h2 h3
        rw [List.length_mergeSort]
        exact this
    · -- an entry has come
      intro x y kl yd yp w2 cnt2 hkey hlk hv hat hrg2 hlt hg2 hs2 hen
      obtain ⟨x', ex, rfl, _⟩ := Maps.keyOf_str Tryd.underlying9 hkey
      obtain rfl : x = x' := encStr_inj ex
      have hrow2 := hrow.kept hg2 (Or.inr (row_ne_iter hrow hrg).symm)
      obtain ⟨yn, yk⟩ := y
      have hy : yk.data.toList = keyOr (keyL sec) σ x := by
        have e2 := holdElem_mk yn yk
        have e3 : holdElem (.agg #[.int .i64 yn, .string yk]) = some (yd, yp) := hv
        rw [e2] at e3
        have h1 := HI.out.2 x
        rw [hat] at h1
        cases e3
        simp only [holdD, DataW.agg.injEq, List.cons.injEq, DataW.lit.injEq, Lit.int.injEq, Lit.string.injEq, and_true, true_and] at h1
        exact h1.2
      clear hs2 hv
      simp only [Hold.v] at hen ⊢
      cases hh : (σ x).2 with
      | true =>
        have d : yk.toList.isEmpty = false := by
          rw [ByteArray.toList_eq, List.isEmpty_eq_false_iff, hy]
          unfold keyOr
          rw [hh]
          exact keyL_ne _ _ _
        clear hy
        go_wp2_with (first
          | (at_builtin; refine wpList_append_own _ rfl _ _ 22 rfl w.heap.size 9 i0 (.string ⟨#[]⟩) 1 16 Tryd.underlying22 hi0 hz0 hz1 hz2 rfl (by decide) _ _ _ rfl ((hrow2.alloc _).alloc _) ⟨w2.heap.size + 1, 0, none⟩ 1 1 [encStr x] rfl rfl (by have h := cell_one_new (w2.alloc (.cells #[.int .i64 yn, .string yk] 107)) (encStr x) 9; simpa using h) (by simp [Value.oneCell', encStr]) (by unfold maxLen at *; omega) (by omega) (by have := hnx.size; have := hg2.size; simp; omega) ?_; intro v' w3 hown' hg3 hnil3; go_frame)
          | go_in)
        have hrg3 := ((hrg2.alloc _).alloc _).kept hg3 (row_ne_low hrow2 hbl) (row_ne_iter hrow2 hrg2)
        go_roundw
        case rel =>
          refine ⟨_, cnt2, ss ++ [x], hrg3, by simp; omega, by simpa using hown', hC.step_in hlk hh, ?_⟩
          exact (((hnx.grown hg2 hnx.size (fun j hj => by cases hj; exact Nat.le_refl _)).alloc (by have := hnx.size; have := hg2.size; omega) _).alloc (by have := hnx.size; have := hg2.size; simp; omega) _).grown hg3 (by have := hnx.size; have := hg2.size; simp; omega) (fun j hj => (hrow2.lt j hj).1)
        case measure => rw [hrg3.left_eq, hrg.left_eq]; exact hlt
      | false =>
        have d : yk = ByteArray.empty := empty_of (by rw [hy]; unfold keyOr; rw [hh]; rfl)
        subst d
        clear hy
        go_wp2
        go_roundw
        case rel => exact ⟨_, cnt2, ss, hrg2.alloc _, by omega, hrow2.alloc _, hC.step_out hh, (hnx.grown hg2 hnx.size (fun j hj => by cases hj; exact Nat.le_refl _)).alloc (by have := hnx.size; have := hg2.size; omega) _⟩
        case measure => rw [(hrg2.alloc _).left_eq, hrg.left_eq]; exact hlt
/-- Whatever the program's vault has. -/
theorem subjects_any (b : Nat) (mo : Option Nat) (sec : ByteArray) (n : Nat) (σ : Kept) (w : World) (hn : n < 1000) (hV : ProgV w b mo sec n σ) :
    Calls Tryd.prog 41 #[.pointer (some ⟨b, 0, none⟩)] w fun e w' => ∃ v ts, e = .returned v ∧ InOrder σ ts ∧ ts.length ≤ 1000 ∧ w'.ownsRow w.heap.size 9 1 v ts.length (ts.map encStr) ∧ Below w.heap.size w w' := by
  cases mo with
  | none =>
    have e0 := hV.none rfl
    subst e0
    exact (subjects_none b sec w hV.row).mono fun e w' ⟨he, hb⟩ => ⟨_, [], he, inOrder0, by simp, World.ownsRow_nil _ _ _ _, hb⟩
  | some m => exact subjects_some b m sec n σ w hn hV
end Go.Proofs.YtdoakaadpfheaaaDoor
