/- A text's words, as the document's answer takes them: all of them, and four empty ones behind. -/
import Derived.Test.YtmpfdhnjhpbjgaaDoorRefPrint
import Derived.Deep.RegionHeld3
namespace Go.Proofs.YtmpfdhnjhpbjgaaDoor
open Go.RowKit
theorem infoS : (Tryd.prog.info? 9).map (fun i => (i.zero, i.size, i.bytes)) = some (some (.string ⟨#[]⟩), 1, 16) := by kernel_rfl
theorem elemS : ∃ i, Elem Tryd.prog 22 9 i (.string ⟨#[]⟩) 16 := by
  obtain ⟨i, hi, h0, h1, h2⟩ := info_parts infoS
  exact ⟨i, Tryd.underlying22, hi, h0, h1, h2, rfl, by omega⟩
theorem all_len (s : ByteArray) : (allB s).length = Lib.countB s blankB + 1 := Lib.splitB_all blankB (by decide) 0 _ s rfl
theorem all_few (s : ByteArray) : (allB s).length ≤ s.size + 1 := by
  have := Lib.countB_le blankB (by decide) s.size s (Nat.le_refl _)
  rw [all_len]; omega
theorem split_size : ∀ (k : Nat) (s : ByteArray), ∀ x ∈ Lib.splitB blankB 0 k s, x.size ≤ s.size
  | 0, s, x, hx => by rw [Lib.splitB_zero] at hx; rw [List.mem_singleton.1 hx]; exact Nat.le_refl _
  | k + 1, s, x, hx => by
    rcases Lib.indexB_cases s blankB with h | ⟨i, h, _⟩
    · rw [Lib.splitB_miss blankB 0 _ s h] at hx; rw [List.mem_singleton.1 hx]; exact Nat.le_refl _
    · rw [Lib.splitB_hit blankB 0 k s i h] at hx
      rcases List.mem_cons.1 hx with rfl | hx
      · rw [ByteArray.size_extract]; omega
      · have := split_size k _ x hx
        rw [ByteArray.size_extract] at this; omega
theorem at_size (s : ByteArray) (i : Nat) : (at_ (allB s) i).size ≤ s.size := by
  unfold at_
  rw [List.getD_eq_getElem?_getD]
  cases h : (allB s)[i]? with
  | none => exact Nat.zero_le _
  | some x => exact split_size _ s x (List.mem_of_getElem? h)
/-- Split's answer lies in a new block. -/
theorem split_at (s : ByteArray) (w : World) (B : Nat) (hB : w.heap.size = B) (hs : s.size ≤ 1000) (hM : TabM w) : Calls Tryd.prog 83 #[.string s, .string ⟨#[32]⟩] w fun e w' => e = .returned (.slice (some ⟨B, 0, none⟩) (allB s).length (allB s).length) ∧ BR w' B 9 B (allB s).length (allB s).length ((allB s).map Value.string) ∧ Below w.heap.size w w' := by
  subst hB
  refine (split_any s w hs hM).mono fun e w' ⟨he, hw⟩ => ⟨by rw [he, all_len], ?_, ?_⟩
  · subst hw
    refine ⟨by simp, Nat.le_refl _, Nat.le_refl _, _, _, heap_alloc_new w _, by simp, ?_, .inl (Nat.le_refl _)⟩
    rw [List.take_of_length_le (by simp)]
  · subst hw
    exact (Below.refl _ w).alloc (Nat.le_refl _) _
def four : List Value := [.string ⟨#[]⟩, .string ⟨#[]⟩, .string ⟨#[]⟩, .string ⟨#[]⟩]
theorem four_at (ws : List ByteArray) (j : Nat) (h : j < 4) : (ws.map Value.string ++ four)[j]? = some (.string (at_ ws j)) := by
  unfold at_
  rw [List.getD_eq_getElem?_getD]
  by_cases hj : j < ws.length
  · rw [List.getElem?_append_left (by simpa using hj), List.getElem?_map, List.getElem?_eq_getElem hj]; rfl
  · rw [List.getElem?_append_right (by simpa using Nat.le_of_not_lt hj), List.getElem?_eq_none (l := ws) (by omega)]
    have h4 : j - (ws.map Value.string).length < 4 := by omega
    generalize j - (ws.map Value.string).length = i at h4
    match i, h4 with
    | 0, _ => rfl
    | 1, _ => rfl
    | 2, _ => rfl
    | 3, _ => rfl
theorem four_one : ∀ v ∈ four, v.oneCell' = true := by
  intro v hv
  simp [four] at hv
  subst hv; rfl
end Go.Proofs.YtmpfdhnjhpbjgaaDoor
