/- The document's own Subjects: all that have a key, in order. -/
import Derived.Test.YtdoakaadpfheaaaDoorRefMake
import Derived.Test.YtdoakaadpfheaaaDoorSorts
import Derived.Maps.AppendAt
namespace Go.Proofs.YtdoakaadpfheaaaDoor
open Go.RowKit Go.Maps Go.Sort
attribute [local go_sem ↓] Go.wp_at_zero Go.wp_at_succ
theorem Tryd.info9' : (Tryd.prog.info? 9).map (fun i => (i.zero, i.size, i.bytes)) = some (some (.string ⟨#[]⟩), 1, 16) := by kernel_rfl
theorem invK : ∀ key kl, keyOf Tryd.prog 9 key = some kl → ∃ x, key = encStr x := fun key kl hk => by
  obtain ⟨x, hx, _⟩ := Maps.keyOf_str Tryd.underlying9 hk
  exact ⟨x, hx⟩
/-- A bool that the walk does not take apart. -/
structure Flag where
  is : Bool
def Flag.v (f : Flag) : Value := .bool f.is
theorem invB : ∀ v y, plainElem (H := Unit) Tryd.prog 4 v = some y → ∃ f : Flag, v = f.v := fun v y hv => by
  obtain ⟨x, rfl, _⟩ := boolElem_inv Tryd.underlying4 hv
  exact ⟨⟨x⟩, rfl⟩
set_option maxRecDepth 100000 in
set_option maxHeartbeats 1000000 in
theorem refSubjects_any (c b bh bs : Nat) (sec : ByteArray) (n : Nat) (σ : Kept) (w : World) (hn : n < 1000) (hV : RefV w c b bh bs sec n σ) :
    Calls Tryd.prog 42 #[.pointer (some ⟨b, 0, none⟩)] w fun e w' => ∃ v ts, e = .returned v ∧ InOrder σ ts ∧ ts.length ≤ 1000 ∧ w'.ownsRow w.heap.size 9 1 v ts.length (ts.map encStr) ∧ Below w.heap.size w w' := by
  obtain ⟨i0, hi0, hz0, hz1, hz2⟩ := info_parts Tryd.info9'
  have c3 : w.cell? ⟨b, 3, none⟩ = some (.map (some bs)) := hV.row.cell 3
  obtain ⟨D, ho, hi⟩ := hV.has
  have hbl := ho.lt
  have hsz := ho.size_le
  have HI := hide hi
  clear hV hi
  go_enter Tryd.func42, Tryd.ntmps42
  go_wp2_with (first
    | (at_range; refine wpList_range_own _ rfl _ 100 rfl 9 4 law9 Tryd.underlying100 _ bs n _ rfl ho ?_; intro w0 hrg0 hg0 hs0)
    | go_in)
  go_frame
  go_loopw [3] (fun v wr => ∃ (left : Lit → Bool) (cnt : Nat) (ss : List (List UInt8)), wr.ranges Tryd.prog 9 (plainElem Tryd.prog 4) bs w.heap.size n D left cnt ∧ ss.length + cnt ≤ Maps.size D ∧
      wr.ownsRow w.heap.size 9 1 v ss.length (ss.map encStr) ∧ Gathered σ left ss ∧ Below w.heap.size w wr)
    (fun _ wr => wr.rangeLeft bs w.heap.size)
  case atStart =>
    exact ⟨_, _, [], hrg0, by simp, World.ownsRow_nil _ _ _ _, Gathered.start HI.out.has, (Below.refl _ _).grown hg0 (Nat.le_refl _) (fun j hj => by cases hj)⟩
  case round =>
    obtain ⟨left, cnt, ss, hrg, hcs, hrow, hC, hnx⟩ := hrel
    go_wp2_with (first
      | (at_next; refine wpList_next_ranges _ rfl _ rfl 9 law9 (plainElem Tryd.prog 4) encStr Flag.v invK invB bs w.heap.size n _ _ _ rfl hrg ?_ ?_)
      | go_in)
    · -- nothing is left
      intro hc0 hl0
      have hord := hC.inOrder hl0
      rcases hrow.2 with ⟨rfl, h0⟩ | ⟨g, cap, cur, rfl, hbase, hb, h1, h2, h3, h4⟩
      · have hss : ss = [] := List.length_eq_zero_iff.1 h0
        subst hss
        go_wp2_with (go_at_call 67; refine (strings_none none 0 _).mono ?_; rintro e w' ⟨rfl, rfl⟩)
        go_ret
        exact ⟨_, _, rfl, hord, by simp, by simpa using World.ownsRow_nil _ _ _ _, hnx⟩
      · have hH : Holds encStr wr g 0 ss.toArray := holds_of_block hb (by simpa using h4)
        have hgl : g < wr.heap.size := (Array.getElem?_eq_some_iff.1 hb).1
        have hc := strings_any g cap ss wr hH hgl (by omega)
        go_wp2_with (go_at_call 67; refine hc.mono ?_; rintro e w' ⟨rfl, nn, os, rfl⟩)
        go_ret
        refine ⟨_, _, rfl, hord, by rw [List.length_mergeSort]; omega, ?_, hnx.grown (grownBy_sorted _) hnx.size (fun j hj => by cases hj; exact hbase)⟩
        have := ownsRow_sorted (n := nn) (os := os) (ss := ss) (ts := ss.mergeSort fun x y => decide (x ≤ y)) (by simp) hbase hb h1 h2 h3
        rw [List.length_mergeSort]
        exact this
    · -- an entry has come
      intro x y kl yd yp w2 cnt2 hkey hlk hv hat hrg2 hlt hg2 hs2 hen
      obtain ⟨x', ex, rfl, _⟩ := Maps.keyOf_str Tryd.underlying9 hkey
      obtain rfl : x = x' := encStr_inj ex
      have hrow2 := hrow.kept hg2 (Or.inr (row_ne_iter hrow hrg).symm)
      have hy : (σ x).2 = y.is := by
        obtain ⟨y', e1, e2⟩ := boolElem_inv Tryd.underlying4 hv
        have e3 : y.is = y' := by simpa [Flag.v] using e1
        cases e2
        have h1 := HI.out.2 x
        rw [hat] at h1
        rw [e3]
        simpa using h1.symm
      clear hs2
      obtain ⟨y⟩ := y
      simp only [Flag.v] at hen hy ⊢
      clear hv
      cases y with
      | true =>
        go_wp2_with (first
          | (at_builtin; refine wpList_append_own _ rfl _ _ 22 rfl w.heap.size 9 i0 (.string ⟨#[]⟩) 1 16 Tryd.underlying22 hi0 hz0 hz1 hz2 rfl (by decide) _ _ _ rfl (hrow2.alloc _) ⟨w2.heap.size, 0, none⟩ 1 1 [encStr x] rfl rfl (cell_one_new _ _ _) (by simp [Value.oneCell', encStr]) (by unfold maxLen at *; omega) (by omega) (by have := hnx.size; have := hg2.size; simp; omega) ?_; intro v' w3 hown' hg3 hnil3; go_frame)
          | go_in)
        have hrg3 := (hrg2.alloc _).kept hg3 (row_ne_low hrow2 hbl) (row_ne_iter hrow2 hrg2)
        go_roundw
        case rel =>
          refine ⟨_, cnt2, ss ++ [x], hrg3, by simp; omega, by simpa using hown', hC.step_in hlk hy, ?_⟩
          exact ((hnx.grown hg2 hnx.size (fun j hj => by cases hj; exact Nat.le_refl _)).alloc (by have := hnx.size; have := hg2.size; omega) _).grown hg3 (by have := hnx.size; have := hg2.size; simp; omega) (fun j hj => (hrow2.lt j hj).1)
        case measure => rw [hrg3.left_eq, hrg.left_eq]; exact hlt
      | false =>
        go_wp2
        go_roundw
        case rel => exact ⟨_, cnt2, ss, hrg2, by omega, hrow2, hC.step_out hy, hnx.grown hg2 hnx.size (fun j hj => by cases hj; exact Nat.le_refl _)⟩
        case measure => rw [hrg2.left_eq, hrg.left_eq]; exact hlt
end Go.Proofs.YtdoakaadpfheaaaDoor
