/- Texts of this proof, one behind the other. -/
import Derived.Shelf.GgSortFunc.Tiny
import Derived.WalkKit
import Derived.WalkSpells
import Derived.WalkLawsBesides
import Derived.Test.YtedcbjefkhgiiabGreatDoorPart23
/- sort.Slice at the document's rows. -/
namespace Go.Proofs.YtedcbjefkhgiiabGreatDoor
open Go.RowKit Go.Sort Go.Lib
set_option linter.unusedSectionVars false
variable [Inhabited Cl]
theorem kinds25 : (Tryz.prog.info? 25).map (fun i => i.desc) = some (.slice 44) := by kernel_rfl
theorem kinds44 : (Tryz.prog.info? 44).map (fun i => (i.hasPointers, i.size, i.bytes)) = some (true, 4, 64) := by kernel_rfl
theorem the25 : ∃ i, Tryz.prog.info? 25 = some i ∧ i.desc = .slice 44 := by
  have h := kinds25
  cases e : Tryz.prog.info? 25 with
  | none => rw [e] at h; cases h
  | some i => rw [e] at h; exact ⟨i, rfl, Option.some.inj h⟩
theorem the44 : ∃ i, Tryz.prog.info? 44 = some i ∧ i.hasPointers = true ∧ i.size = 4 ∧ i.bytes = 64 := by
  have h := kinds44
  cases e : Tryz.prog.info? 44 with
  | none => rw [e] at h; cases h
  | some i =>
    rw [e] at h
    have h1 := Option.some.inj h
    simp only [Prod.mk.injEq] at h1
    exact ⟨i, rfl, h1.1, h1.2.1, h1.2.2⟩
theorem kind44 (w : World) : (Extern.Rtype.kind 44).run Tryz.prog w = .ok 25 w := by kernel_rfl
theorem packed25 : Tryz.prog.packed 25 = false := by kernel_rfl
set_option maxRecDepth 100000 in
/-- Rows, none or one. -/
theorem slice_few (p : Option Addr) (n c : Nat) (h1 : n ≤ 1) (lf : Fn) (la lb : Array Value) (w : World) :
    Calls Tryz.prog 54 #[.iface 25 (.slice p n c), .func lf la lb] w fun e w' => e = .returned (.tuple #[]) ∧ Below w.heap.size w w' := by
  obtain ⟨i, hi, hd⟩ := the25
  obtain ⟨ie, hie, e1, e2, e3⟩ := the44
  have hG : ∀ os, Below w.heap.size w (grow w os) := fun os => ⟨rfl, rfl, rfl, by rw [size_grow]; omega, fun k hk => heap_grow_old _ _ hk⟩
  rcases Nat.le_one_iff_eq_zero_or_eq_one.1 h1 with rfl | rfl
  · refine (Any.sort_Slice_tiny (ρ := laysSlice_ren) laysSlice 25 44 i ie hi hd packed25 hie 25 kind44 p 0 c h1 115 (by rw [show swapperK 0 ie 25 = 1 from rfl]; kernel_rfl) lf la lb w).mono ?_
    rintro e w' ⟨rfl, os, rfl⟩
    exact ⟨rfl, hG os⟩
  · refine (Any.sort_Slice_tiny (ρ := laysSlice_ren) laysSlice 25 44 i ie hi hd packed25 hie 25 kind44 p 1 c h1 116 (by rw [show swapperK 1 ie 25 = 2 from rfl]; kernel_rfl) lf la lb w).mono ?_
    rintro e w' ⟨rfl, os, rfl⟩
    exact ⟨rfl, hG os⟩
theorem nine {n : Nat} {ie : TypeInfo} (h2 : 2 ≤ n) (e1 : ie.hasPointers = true) (e3 : ie.bytes = 64) : swapperK n ie 25 = 9 := by
  have c : (n == 0) = false := by simp; omega
  have d : (n == 1) = false := by simp; omega
  simp [swapperK, e1, e3, c, d]
set_option maxRecDepth 100000 in
/-- Rows, two or more. -/
theorem slice_some (blk c : Nat) (lb : Array Value) (d : Array Cl) (w : World) (h2 : 2 ≤ d.size) (h50 : d.size < 50) (hless : LessS w blk d.size 55 lb) (hH : HoldsK cellL 4 w blk 0 d) (hblk : blk < w.heap.size) :
    Calls Tryz.prog 54 #[.iface 25 (.slice (some ⟨blk, 0, none⟩) d.size c), .func (.func 55) #[] lb] w fun e w' => e = .returned (.tuple #[]) ∧ ∃ d', PermIn 0 d.size d d' ∧ SortedIn ltC 0 d.size d' ∧ Srt w blk w' d' := by
  obtain ⟨i, hi, hd⟩ := the25
  obtain ⟨ie, hie, e1, e2, e3⟩ := the44
  refine Any.sort_Slice_of_pdq (ρ := laysSlice_ren) laysSlice 25 44 i ie hi hd packed25 hie 25 kind44 (some ⟨blk, 0, none⟩) d.size c (by omega) 123 (by rw [nine h2 e1 e3]; kernel_rfl) (.func 55) #[] lb w _ ?_
  have hB : sliceBound Tryz.prog 44 ie 25 (some ⟨blk, 0, none⟩) d.size c = #[.slice (some ⟨blk, 0, none⟩) d.size c, typeHandle Tryz.prog 44] := by
    unfold sliceBound; rw [if_neg (swapperK_gt _ _ _ h2)]
  rw [hB]
  have eg : ∀ args w, (callFunc 55 args).run Tryz.prog w = .ok (.enter 55 args) w := enters_of Tryz.func55 (by kernel_rfl) rfl
  have hsw : SwapSwapsK Tryz.prog 123 #[.slice (some ⟨blk, 0, none⟩) d.size c, typeHandle Tryz.prog 44] cellL 4 blk 0 d.size :=
    swapSwapsK_of_literal false 123 (fun args W => run_callFunc_extern Tryz.func123 (by kernel_rfl) (by kernel_rfl) (by kernel_rfl) (e := Extern.ReflectliteSwapper.swap false) (by kernel_rfl) args W) 44 ie hie cellL 4 (fun _ => rfl) e2 isAgg42 cellL_one blk 0 d.size c
  have hS0 : Srt w blk w d := ⟨hH, Stirred.refl _ _, hblk⟩
  have hS : Srt w blk (sliceWorld Tryz.prog laysSlice_ren 25 (some ⟨blk, 0, none⟩) d.size c w) d := by
    unfold sliceWorld
    refine hS0.still ?_
    have b1 : Below w.heap.size w (w.alloc (.cells #[.slice (some ⟨blk, 0, none⟩) d.size c] 25)) := (Below.refl _ w).alloc (Nat.le_refl _) _
    exact b1.alloc b1.size _
  have hlim : Lib.bitLen d.size < 1000000 := Nat.lt_of_le_of_lt (Lib.bitLen_le d.size 62 (by omega) (by omega)) (by omega)
  refine (pdq_any w blk d.size 55 lb 123 _ eg hless hsw h50 (d.size + 1) 0 d.size (Lib.bitLen d.size) d _ (by omega) hS rfl (Nat.zero_le _) (Nat.le_refl _) hlim (Or.inl rfl)).mono ?_
  rintro e w' ⟨rfl, hs, _⟩
  have h := pdq_sorts ltC swo_ltC d 0 d.size (Lib.bitLen d.size) true true (Nat.zero_le _) (Nat.le_refl _) (Or.inl rfl)
  exact ⟨rfl, _, h.1, h.2, hs⟩
end Go.Proofs.YtedcbjefkhgiiabGreatDoor

/- The document's own test of bounds. -/
namespace Go.Proofs.YtedcbjefkhgiiabGreatDoor
open Go.RowKit
set_option maxRecDepth 100000 in
theorem in_any (n l h : Int) (w : World) :
    Calls Tryz.prog 114 #[.int .i64 n, .int .i64 l, .int .i64 h] w fun e w' => e = .returned (.bool (decide (l ≤ n) && decide (n ≤ h))) ∧ w' = w := by
  by_cases h1 : l ≤ n
  · have d1 : decide (l ≤ n) = true := by simp; omega
    by_cases h2 : n ≤ h
    · have d2 : decide (n ≤ h) = true := by simp; omega
      go_enter Tryz.func114, Tryz.ntmps114
      go_wp2
      go_ret
      exact ⟨ret_val (by simp [h1, h2]), rfl⟩
    · have d2 : decide (n ≤ h) = false := by simp; omega
      go_enter Tryz.func114, Tryz.ntmps114
      go_wp2
      go_ret
      exact ⟨ret_val rfl, rfl⟩
  · have d1 : decide (l ≤ n) = false := by simp; omega
    go_enter Tryz.func114, Tryz.ntmps114
    go_wp2
    go_ret
    exact ⟨ret_val rfl, rfl⟩
end Go.Proofs.YtedcbjefkhgiiabGreatDoor
