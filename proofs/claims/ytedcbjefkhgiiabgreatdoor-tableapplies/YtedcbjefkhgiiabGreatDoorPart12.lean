/- Texts of this proof, one behind the other. -/
import Derived.Shelf.GgClosure.StringsRunes
import Derived.Test.YtedcbjefkhgiiabGreatDoorPart11
/- A text's runes and its bytes: some rune is outside of what a value may have just where some byte is. -/
namespace Go.Proofs.YtedcbjefkhgiiabGreatDoor
open Go.Lib
/-- A rune outside of what a value may have. -/
def outP (x : Nat) : Bool := decide (x < 32) || decide (126 < x)
theorem decode_low (s : ByteArray) (i : Nat) (h : (s.get! i).toNat < 128) : Utf8.decode s i = ((s.get! i).toNat, 1) := by
  unfold Utf8.decode
  simp only [Nat.add_zero]
  rw [if_pos h]
theorem decode_high (s : ByteArray) (i : Nat) (h : 128 ≤ (s.get! i).toNat) : 128 ≤ (Utf8.decode s i).1 := by
  unfold Utf8.decode
  simp only [Nat.add_zero]
  rw [if_neg (by omega)]
  have hr : 128 ≤ Utf8.runeError := by decide
  split
  · split
    · simp only; omega
    · exact hr
  · split
    · split
      · rename_i h1
        simp only [Bool.and_eq_true, decide_eq_true_eq] at h1
        simp only; omega
      · exact hr
    · split
      · split
        · rename_i h1
          simp only [Bool.and_eq_true, decide_eq_true_eq] at h1
          simp only; omega
        · exact hr
      · exact hr
theorem get_data (s : ByteArray) (i : Nat) : s.get! i = s.data.toList.getD i 0 := by
  cases s with
  | mk a =>
    show a[i]! = _
    rw [List.getD_eq_getElem?_getD, Array.getElem?_toList]
    by_cases h : i < a.size
    · rw [getElem!_pos a i h, Array.getElem?_eq_getElem h]; rfl
    · rw [getElem!_neg a i h, Array.getElem?_eq_none (by show a.size ≤ i; omega)]; rfl
theorem idx_from (s : ByteArray) : ∀ (f pos : Nat), s.size ≤ pos + f → decide (0 ≤ idxFuncFrom outP true s f pos) = !(s.data.toList.drop pos).all inB
  | 0, pos, h => by
    rw [List.drop_of_length_le (by rw [← size_eq]; omega)]
    rfl
  | f + 1, pos, h => by
    by_cases hp : pos < s.size
    · have hl : pos < s.data.toList.length := by rw [← size_eq]; exact hp
      have hd : s.data.toList.drop pos = s.get! pos :: s.data.toList.drop (pos + 1) := by
        rw [List.drop_eq_getElem_cons hl, get_data, List.getD_eq_getElem?_getD, List.getElem?_eq_getElem hl]; rfl
      rw [hd, List.all_cons, idxFuncFrom, if_pos hp]
      by_cases hlow : (s.get! pos).toNat < 128
      · rw [decode_low s pos hlow]
        simp only
        by_cases hin : inB (s.get! pos) = true
        · have ho : outP (s.get! pos).toNat = false := by
            unfold inB at hin
            simp only [Bool.and_eq_true, decide_eq_true_eq] at hin
            unfold outP
            rw [decide_eq_false (by omega), decide_eq_false (by omega)]; rfl
          rw [ho, if_neg (by decide), hin, Bool.true_and]
          exact idx_from s f (pos + 1) (by omega)
        · have ho : outP (s.get! pos).toNat = true := by
            unfold inB at hin
            simp only [Bool.and_eq_true, decide_eq_true_eq] at hin
            unfold outP
            by_cases h1 : (s.get! pos).toNat < 32
            · rw [decide_eq_true h1]; rfl
            · rw [decide_eq_true (p := 126 < _) (by omega), Bool.or_true]
          rw [ho, if_pos rfl, eq_false_of_ne_true hin]
          simp
      · have h1 := decode_high s pos (by omega)
        have ho : outP (Utf8.decode s pos).1 = true := by unfold outP; rw [decide_eq_true (p := 126 < _) (by omega), Bool.or_true]
        have hin : inB (s.get! pos) = false := by unfold inB; rw [decide_eq_false (p := _ ≤ 126) (by omega), Bool.and_false]
        rw [ho, if_pos rfl, hin]
        simp
    · rw [idxFuncFrom, if_neg hp, List.drop_of_length_le (by rw [← size_eq]; omega)]
      rfl
/-- Some rune of a text is outside, just where some byte is. -/
theorem idx_in (s : ByteArray) : decide (0 ≤ idxFunc outP true s) = !s.data.toList.all inB := idx_from s s.size 0 (by omega)
end Go.Proofs.YtedcbjefkhgiiabGreatDoor

/- The library's own ContainsFunc at this program: the table of numbers. -/
namespace Go.Proofs.YtedcbjefkhgiiabGreatDoor
open Go.RowKit Go.Shelf
def laysContains_ren : Go.Shelf.Ren := ⟨fun | 17 => 113 | 15 => 161 | 20 => 192 | n => n, fun | 9 => 9 | 23 => 182 | 4 => 4 | 3 => 3 | 0 => 0 | 21 => 21 | n => n, fun | n => n⟩
theorem laysContains : Go.Proofs.LaysGw.n17 Tryz.prog laysContains_ren := {
  mixed := by kernel_rfl
  f15 := Tryz.func161.trans (congrArg some (by kernel_rfl))
  f17 := Tryz.func113.trans (congrArg some (by kernel_rfl))
  f20 := Tryz.func192.trans (congrArg some (by kernel_rfl))
  t0 := Tryz.underlying0
  a0 := Tryz.isAgg0
  z0 := Tryz.sizeOf0
  v0 := Tryz.zeroValue0
  i0 := by kernel_rfl
  t3 := Tryz.underlying3
  a3 := Tryz.isAgg3
  z3 := Tryz.sizeOf3
  v3 := Tryz.zeroValue3
  i3 := by kernel_rfl
  t4 := Tryz.underlying4
  a4 := Tryz.isAgg4
  z4 := Tryz.sizeOf4
  v4 := Tryz.zeroValue4
  i4 := by kernel_rfl
  t9 := Tryz.underlying9
  a9 := Tryz.isAgg9
  z9 := Tryz.sizeOf9
  v9 := Tryz.zeroValue9
  i9 := by kernel_rfl
  t21 := Tryz.underlying21
  a21 := Tryz.isAgg21
  z21 := Tryz.sizeOf21
  v21 := Tryz.zeroValue21
  i21 := by kernel_rfl
  t23 := Tryz.underlying182
  a23 := Tryz.isAgg182
  z23 := Tryz.sizeOf182
  v23 := Tryz.zeroValue182
  i23 := by kernel_rfl }
end Go.Proofs.YtedcbjefkhgiiabGreatDoor
