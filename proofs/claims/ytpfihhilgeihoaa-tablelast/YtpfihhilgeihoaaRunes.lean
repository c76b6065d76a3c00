/- A text's runes and its bytes: some rune is outside of what a value may have just where some byte is. -/
import Derived.Test.YtpfihhilgeihoaaEvents
import Derived.Shelf.GgClosure.StringsRunes
namespace Go.Proofs.Ytpfihhilgeihoaa
open Go.Lib
/-- A rune outside of what a value may have. -/
def outP (x : Nat) : Bool := decide (x < 32) || decide (126 < x)
theorem decode_low (s : ByteArray) (i : Nat) (h : (s.get! i).toNat < 128) : Utf8.decode s i = ((s.get! i).toNat, 1) := by
  unfold Utf8.decode
  simp only [Nat.add_zero]
  rw [if_pos h]
theorem decode_high (s : ByteArray) (i : Nat) (h : 128 ≤ (s.get! i).toNat) : 128 ≤ (Utf8.decode s i).1 := by
  unfold Utf8.decode
  simp only [Nat.add_zero]
  rw [if_neg (by omega)]
  have hr : 128 ≤ Utf8.runeError := by decide
  split
  · split
    · simp only; omega
    · exact hr
  · split
    · split
      · rename_i h1
        simp only [Bool.and_eq_true, decide_eq_true_eq] at h1
        simp only; omega
      · exact hr
    · split
      · split
        · rename_i h1
          simp only [Bool.and_eq_true, decide_eq_true_eq] at h1
          simp only; omega
        · exact hr
      · exact hr
theorem get_data (s : ByteArray) (i : Nat) : s.get! i = s.data.toList.getD i 0 := by
  cases s with
  | mk a =>
    show a[i]! = _
    rw [List.getD_eq_getElem?_getD, Array.getElem?_toList]
    by_cases h : i < a.size
    · rw [getElem!_pos a i h, Array.getElem?_eq_getElem h]; rfl
    · rw [getElem!_neg a i h, Array.getElem?_eq_none (by show a.size ≤ i; omega)]; rfl
theorem idx_from (s : ByteArray) : ∀ (f pos : Nat), s.size ≤ pos + f → decide (0 ≤ idxFuncFrom outP true s f pos) = !(s.data.toList.drop pos).all inB
  | 0, pos, h => by
    rw [List.drop_of_length_le (by rw [← size_eq]; omega)]
    rfl
  | f + 1, pos, h => by
    by_cases hp : pos < s.size
    · have hl : pos < s.data.toList.length := by rw [← size_eq]; exact hp
      have hd : s.data.toList.drop pos = s.get! pos :: s.data.toList.drop (pos + 1) := by
        rw [List.drop_eq_getElem_cons hl, get_data, List.getD_eq_getElem?_getD, List.getElem?_eq_getElem hl]; rfl
      rw [hd, List.all_cons, idxFuncFrom, if_pos hp]
      by_cases hlow : (s.get! pos).toNat < 128
      · rw [decode_low s pos hlow]
        simp only
        by_cases hin : inB (s.get! pos) = true
        · have ho : outP (s.get! pos).toNat = false := by
            unfold inB at hin
            simp only [Bool.and_eq_true, decide_eq_true_eq] at hin
            unfold outP
            rw [decide_eq_false (by omega), decide_eq_false (by omega)]; rfl
          rw [ho, if_neg (by decide), hin, Bool.true_and]
          exact idx_from s f (pos + 1) (by omega)
        · have ho : outP (s.get! pos).toNat = true := by
            unfold inB at hin
            simp only [Bool.and_eq_true, decide_eq_true_eq] at hin
            unfold outP
            by_cases h1 : (s.get! pos).toNat < 32
            · rw [decide_eq_true h1]; rfl
            · rw [decide_eq_true (p := 126 < _) (by omega), Bool.or_true]
          rw [ho, if_pos rfl, eq_false_of_ne_true hin]
          simp
      · have h1 := decode_high s pos (by omega)
        have ho : outP (Utf8.decode s pos).1 = true := by unfold outP; rw [decide_eq_true (p := 126 < _) (by omega), Bool.or_true]
        have hin : inB (s.get! pos) = false := by unfold inB; rw [decide_eq_false (p := _ ≤ 126) (by omega), Bool.and_false]
        rw [ho, if_pos rfl, hin]
        simp
    · rw [idxFuncFrom, if_neg hp, List.drop_of_length_le (by rw [← size_eq]; omega)]
      rfl
/-- Some rune of a text is outside, just where some byte is. -/
theorem idx_in (s : ByteArray) : decide (0 ≤ idxFunc outP true s) = !s.data.toList.all inB := idx_from s s.size 0 (by omega)
end Go.Proofs.Ytpfihhilgeihoaa
