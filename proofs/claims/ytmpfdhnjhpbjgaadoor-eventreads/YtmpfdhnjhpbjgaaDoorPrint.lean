/- How events are written: the program's own Print. -/
import Derived.Test.YtmpfdhnjhpbjgaaDoorRight
import Derived.Deep.RegionHeld3
namespace Go.Proofs.YtmpfdhnjhpbjgaaDoor
open Go.RowKit
attribute [local go_sem ↓] Go.wp_at_zero Go.wp_at_succ
/-- The program's own table of kinds lies as its text lays it. -/
def layRow : Array Value := #[.string ⟨#[]⟩, .int .i64 0, .string ⟨#[112, 117, 116]⟩, .int .i64 5, .string ⟨#[100, 101, 108]⟩, .int .i64 4, .string ⟨#[103, 111, 110, 101]⟩, .int .i64 2]
def TabL (w : World) : Prop := HasR w 0 125 layRow
theorem TabL.lt {w : World} (h : TabL w) : 0 < w.heap.size := HasR.lt h
theorem TabL.below {w w' : World} {B : Nat} (h : TabL w) (hb : Below B w w') (hB : 0 < B) : TabL w' := HasR.below h hb hB
theorem textB_join (e : Ev) (l : List ByteArray) (h : Lib.join (l.map (·.data.toList)) [32] = printL e) : (⟨(Lib.join (l.map (·.data.toList)) [32]).toArray⟩ : ByteArray) = textB e := by rw [h]; rfl
theorem name_len {l : List UInt8} (h : nameB l = true) : l.length ≤ 10 := by
  unfold nameB at h
  simp only [Bool.and_eq_true, decide_eq_true_eq] at h
  exact h.1.2
theorem val_len {l : List UInt8} (h : valB l = true) : l.length ≤ 20 := by
  unfold valB at h
  simp only [Bool.and_eq_true, decide_eq_true_eq] at h
  exact h.1
theorem print_len {e : Ev} (h : rightB e = true) : (printL e).length ≤ 60 := by
  obtain ⟨hs, ⟨hk, ht, hr, hv⟩ | ⟨hk, ht, hr, hv⟩ | ⟨hk, ht, hr, hv⟩⟩ := right_kinds h
  · have h1 := name_len hs; have h2 := name_len ht; have h3 := name_len hr; have h4 := val_len hv
    unfold printL
    rw [if_pos hk]
    simp only [List.length_append, List.length_cons, wPut, List.length_nil]
    omega
  · have h1 := name_len hs; have h2 := name_len ht; have h3 := name_len hr
    unfold printL
    rw [if_neg (by omega), if_pos hk]
    simp only [List.length_append, List.length_cons, wDel, List.length_nil]
    omega
  · have h1 := name_len hs
    unfold printL
    rw [if_neg (by omega), if_neg (by omega)]
    simp only [List.length_append, List.length_cons, wGone, List.length_nil]
    omega
theorem join_put (s t r v : ByteArray) : Lib.join (([⟨#[112, 117, 116]⟩, s, t, r, v].take 5).map (·.data.toList)) [32] = printL ⟨1, s, t, r, v⟩ := by
  simp [Lib.join, List.intercalate, printL, wPut]
theorem join_del (s t r v : ByteArray) : Lib.join (([⟨#[100, 101, 108]⟩, s, t, r, v].take 4).map (·.data.toList)) [32] = printL ⟨2, s, t, r, v⟩ := by
  simp [Lib.join, List.intercalate, printL, wDel]
theorem join_gone (s t r v : ByteArray) : Lib.join (([⟨#[103, 111, 110, 101]⟩, s, t, r, v].take 2).map (·.data.toList)) [32] = printL ⟨3, s, t, r, v⟩ := by
  simp [Lib.join, List.intercalate, printL, wGone]
/-- What Print joins. -/
theorem join_five {a b c d f : ByteArray} {bk : Nat} {w : World} (h : HasR w bk 126 #[.string a, .string b, .string c, .string d, .string f]) (n : Nat) (hn : n ≤ 5)
    (hlen : (Lib.join (([a, b, c, d, f].take n).map (·.data.toList)) [32]).length ≤ 1000000) :
    Calls Tryd.prog 80 #[.slice (some ⟨bk, 0, none⟩) n 5, .string ⟨#[32]⟩] w fun e w' => e = .returned (.string ⟨(Lib.join (([a, b, c, d, f].take n).map (·.data.toList)) [32]).toArray⟩) ∧ Below w.heap.size w w' := by
  have hl : ([a, b, c, d, f].take n).length = n := by rw [List.length_take]; simp; omega
  have J := join_any bk 5 ([a, b, c, d, f].take n) w (fun j x hx => ?_) h.lt (by rw [hl]; exact hn) (by decide) hlen
  · rw [hl] at J; exact J
  · have hj : j < n := by
      have := (List.getElem?_eq_some_iff.1 hx).1
      omega
    rw [List.getElem?_take_of_lt hj] at hx
    rw [h.cell]
    match j, hx with
    | 0, hx => simp at hx; subst hx; rfl
    | 1, hx => simp at hx; subst hx; rfl
    | 2, hx => simp at hx; subst hx; rfl
    | 3, hx => simp at hx; subst hx; rfl
    | 4, hx => simp at hx; subst hx; rfl
    | j + 5, _ => omega
set_option maxRecDepth 100000 in
set_option maxHeartbeats 1000000 in
theorem print_bad (k : Int) (s t r v : ByteArray) (w : World) (h : rightB ⟨k, s, t, r, v⟩ = false) : Calls Tryd.prog 49 #[.agg #[.int .i64 k, .string s, .string t, .string r, .string v]] w fun e w' => e = .returned (.tuple #[.string ⟨#[]⟩, .iface 30 (.int .i64 1)]) ∧ Below w.heap.size w w' := by
  have R := hide (fun wx => right_any k s t r v wx)
  rw [h] at R
  clear h
  have bel := (Below.refl _ w).alloc (Nat.le_refl _) (.cells #[.int .i64 k, .string s, .string t, .string r, .string v] 70)
  go_enter Tryd.func49, Tryd.ntmps49
  go_wp2_with (go_at_call 50; (with_reducible refine (R.out _).mono ?_); rintro e w1 ⟨rfl, hb1⟩)
  go_ret2
  exact ⟨rfl, bel.trans (hb1.mono (by simp))⟩
set_option maxRecDepth 100000 in
set_option maxHeartbeats 1000000 in
theorem print_put (s t r v : ByteArray) (w : World) (h : rightB ⟨1, s, t, r, v⟩ = true) (hL : TabL w) : Calls Tryd.prog 49 #[.agg #[.int .i64 1, .string s, .string t, .string r, .string v]] w fun e w' => e = .returned (.tuple #[.string (textB ⟨1, s, t, r, v⟩), .nilIface]) ∧ Below w.heap.size w w' := by
  have R := hide (fun wx => right_any 1 s t r v wx)
  rw [h] at R
  have bel := (Below.refl _ w).alloc (Nat.le_refl _) (.cells #[.int .i64 1, .string s, .string t, .string r, .string v] 70)
  have l0 := hL.lt
  have J := hide (fun (wx : World) => join_five (w := (wx.alloc (.cells #[.string ⟨#[112, 117, 116]⟩, .string s, .string t, .string r, .string v] 126)).drew) ((HasR.new wx 126 _).drew) 5 (by decide) (by rw [join_put]; exact Nat.le_trans (print_len h) (by decide)))
  clear h
  simp only [textB_join ⟨1, s, t, r, v⟩ _ (join_put s t r v)] at J
  generalize textB ⟨1, s, t, r, v⟩ = T at J
  go_enter Tryd.func49, Tryd.ntmps49
  go_wp2_with (go_at_call 50; (with_reducible refine (R.out _).mono ?_); rintro e w1 ⟨rfl, hb1⟩)
  clear R
  have hX : HasR w1 w.heap.size 70 #[.int .i64 1, .string s, .string t, .string r, .string v] := (HasR.new w 70 _).below hb1 (by simp)
  have hL1 : TabL w1 := (hL.below bel l0).below hb1 (by simp)
  have x0 : w1.cell? ⟨w.heap.size, 0, none⟩ = some (.int .i64 1) := hX.cell 0
  have x1 : w1.cell? ⟨w.heap.size, 1, none⟩ = some (.string s) := hX.cell 1
  have x2 : w1.cell? ⟨w.heap.size, 2, none⟩ = some (.string t) := hX.cell 2
  have x3 : w1.cell? ⟨w.heap.size, 3, none⟩ = some (.string r) := hX.cell 3
  have x4 : w1.cell? ⟨w.heap.size, 4, none⟩ = some (.string v) := hX.cell 4
  have y0 : w1.cell? ⟨0, 2, none⟩ = some (.string ⟨#[112, 117, 116]⟩) := hL1.cell 2
  have y1 : w1.cell? ⟨0, 3, none⟩ = some (.int .i64 5) := hL1.cell 3
  have l1 : w.heap.size < w1.heap.size := hX.lt
  have l2 : 0 < w1.heap.size := hL1.lt
  clear hX hL1 hL
  go_region_held3 (fun wx => wx.cell? ⟨w.heap.size, 0, none⟩ = some (.int .i64 1) ∧ wx.cell? ⟨w.heap.size, 1, none⟩ = some (.string s) ∧ wx.cell? ⟨w.heap.size, 2, none⟩ = some (.string t) ∧ wx.cell? ⟨w.heap.size, 3, none⟩ = some (.string r) ∧ wx.cell? ⟨w.heap.size, 4, none⟩ = some (.string v) ∧ wx.cell? ⟨0, 2, none⟩ = some (.string ⟨#[112, 117, 116]⟩)) (go_keep) (fail)
  go_wp2_with (go_at_call 80; (with_reducible refine (J.out w1).mono ?_); rintro e w2 ⟨rfl, hb2⟩)
  go_ret2
  have b1 := bel.trans (hb1.mono (by simp))
  exact ⟨rfl, b1.trans (((Below.refl _ w1).alloc (Nat.le_refl _) _).drew.trans (hb2.mono (by simp)) |>.mono b1.size)⟩
set_option maxRecDepth 100000 in
set_option maxHeartbeats 1000000 in
theorem print_del (s t r v : ByteArray) (w : World) (h : rightB ⟨2, s, t, r, v⟩ = true) (hL : TabL w) : Calls Tryd.prog 49 #[.agg #[.int .i64 2, .string s, .string t, .string r, .string v]] w fun e w' => e = .returned (.tuple #[.string (textB ⟨2, s, t, r, v⟩), .nilIface]) ∧ Below w.heap.size w w' := by
  have R := hide (fun wx => right_any 2 s t r v wx)
  rw [h] at R
  have bel := (Below.refl _ w).alloc (Nat.le_refl _) (.cells #[.int .i64 2, .string s, .string t, .string r, .string v] 70)
  have l0 := hL.lt
  have J := hide (fun (wx : World) => join_five (w := (wx.alloc (.cells #[.string ⟨#[100, 101, 108]⟩, .string s, .string t, .string r, .string v] 126)).drew) ((HasR.new wx 126 _).drew) 4 (by decide) (by rw [join_del]; exact Nat.le_trans (print_len h) (by decide)))
  clear h
  simp only [textB_join ⟨2, s, t, r, v⟩ _ (join_del s t r v)] at J
  generalize textB ⟨2, s, t, r, v⟩ = T at J
  go_enter Tryd.func49, Tryd.ntmps49
  go_wp2_with (go_at_call 50; (with_reducible refine (R.out _).mono ?_); rintro e w1 ⟨rfl, hb1⟩)
  clear R
  have hX : HasR w1 w.heap.size 70 #[.int .i64 2, .string s, .string t, .string r, .string v] := (HasR.new w 70 _).below hb1 (by simp)
  have hL1 : TabL w1 := (hL.below bel l0).below hb1 (by simp)
  have x0 : w1.cell? ⟨w.heap.size, 0, none⟩ = some (.int .i64 2) := hX.cell 0
  have x1 : w1.cell? ⟨w.heap.size, 1, none⟩ = some (.string s) := hX.cell 1
  have x2 : w1.cell? ⟨w.heap.size, 2, none⟩ = some (.string t) := hX.cell 2
  have x3 : w1.cell? ⟨w.heap.size, 3, none⟩ = some (.string r) := hX.cell 3
  have x4 : w1.cell? ⟨w.heap.size, 4, none⟩ = some (.string v) := hX.cell 4
  have y0 : w1.cell? ⟨0, 4, none⟩ = some (.string ⟨#[100, 101, 108]⟩) := hL1.cell 4
  have y1 : w1.cell? ⟨0, 5, none⟩ = some (.int .i64 4) := hL1.cell 5
  have l1 : w.heap.size < w1.heap.size := hX.lt
  have l2 : 0 < w1.heap.size := hL1.lt
  clear hX hL1 hL
  go_region_held3 (fun wx => wx.cell? ⟨w.heap.size, 0, none⟩ = some (.int .i64 2) ∧ wx.cell? ⟨w.heap.size, 1, none⟩ = some (.string s) ∧ wx.cell? ⟨w.heap.size, 2, none⟩ = some (.string t) ∧ wx.cell? ⟨w.heap.size, 3, none⟩ = some (.string r) ∧ wx.cell? ⟨w.heap.size, 4, none⟩ = some (.string v) ∧ wx.cell? ⟨0, 4, none⟩ = some (.string ⟨#[100, 101, 108]⟩)) (go_keep) (fail)
  go_wp2_with (go_at_call 80; (with_reducible refine (J.out w1).mono ?_); rintro e w2 ⟨rfl, hb2⟩)
  go_ret2
  have b1 := bel.trans (hb1.mono (by simp))
  exact ⟨rfl, b1.trans (((Below.refl _ w1).alloc (Nat.le_refl _) _).drew.trans (hb2.mono (by simp)) |>.mono b1.size)⟩
set_option maxRecDepth 100000 in
set_option maxHeartbeats 1000000 in
theorem print_gone (s t r v : ByteArray) (w : World) (h : rightB ⟨3, s, t, r, v⟩ = true) (hL : TabL w) : Calls Tryd.prog 49 #[.agg #[.int .i64 3, .string s, .string t, .string r, .string v]] w fun e w' => e = .returned (.tuple #[.string (textB ⟨3, s, t, r, v⟩), .nilIface]) ∧ Below w.heap.size w w' := by
  have R := hide (fun wx => right_any 3 s t r v wx)
  rw [h] at R
  have bel := (Below.refl _ w).alloc (Nat.le_refl _) (.cells #[.int .i64 3, .string s, .string t, .string r, .string v] 70)
  have l0 := hL.lt
  have J := hide (fun (wx : World) => join_five (w := (wx.alloc (.cells #[.string ⟨#[103, 111, 110, 101]⟩, .string s, .string t, .string r, .string v] 126)).drew) ((HasR.new wx 126 _).drew) 2 (by decide) (by rw [join_gone]; exact Nat.le_trans (print_len h) (by decide)))
  clear h
  simp only [textB_join ⟨3, s, t, r, v⟩ _ (join_gone s t r v)] at J
  generalize textB ⟨3, s, t, r, v⟩ = T at J
  go_enter Tryd.func49, Tryd.ntmps49
  go_wp2_with (go_at_call 50; (with_reducible refine (R.out _).mono ?_); rintro e w1 ⟨rfl, hb1⟩)
  clear R
  have hX : HasR w1 w.heap.size 70 #[.int .i64 3, .string s, .string t, .string r, .string v] := (HasR.new w 70 _).below hb1 (by simp)
  have hL1 : TabL w1 := (hL.below bel l0).below hb1 (by simp)
  have x0 : w1.cell? ⟨w.heap.size, 0, none⟩ = some (.int .i64 3) := hX.cell 0
  have x1 : w1.cell? ⟨w.heap.size, 1, none⟩ = some (.string s) := hX.cell 1
  have x2 : w1.cell? ⟨w.heap.size, 2, none⟩ = some (.string t) := hX.cell 2
  have x3 : w1.cell? ⟨w.heap.size, 3, none⟩ = some (.string r) := hX.cell 3
  have x4 : w1.cell? ⟨w.heap.size, 4, none⟩ = some (.string v) := hX.cell 4
  have y0 : w1.cell? ⟨0, 6, none⟩ = some (.string ⟨#[103, 111, 110, 101]⟩) := hL1.cell 6
  have y1 : w1.cell? ⟨0, 7, none⟩ = some (.int .i64 2) := hL1.cell 7
  have l1 : w.heap.size < w1.heap.size := hX.lt
  have l2 : 0 < w1.heap.size := hL1.lt
  clear hX hL1 hL
  go_region_held3 (fun wx => wx.cell? ⟨w.heap.size, 0, none⟩ = some (.int .i64 3) ∧ wx.cell? ⟨w.heap.size, 1, none⟩ = some (.string s) ∧ wx.cell? ⟨w.heap.size, 2, none⟩ = some (.string t) ∧ wx.cell? ⟨w.heap.size, 3, none⟩ = some (.string r) ∧ wx.cell? ⟨w.heap.size, 4, none⟩ = some (.string v) ∧ wx.cell? ⟨0, 6, none⟩ = some (.string ⟨#[103, 111, 110, 101]⟩)) (go_keep) (fail)
  go_wp2_with (go_at_call 80; (with_reducible refine (J.out w1).mono ?_); rintro e w2 ⟨rfl, hb2⟩)
  go_ret2
  have b1 := bel.trans (hb1.mono (by simp))
  exact ⟨rfl, b1.trans (((Below.refl _ w1).alloc (Nat.le_refl _) _).drew.trans (hb2.mono (by simp)) |>.mono b1.size)⟩
/-- What Print answers. -/
theorem print_ok (k : Int) (s t r v : ByteArray) (w : World) (h : rightB ⟨k, s, t, r, v⟩ = true) (hL : TabL w) : Calls Tryd.prog 49 #[.agg #[.int .i64 k, .string s, .string t, .string r, .string v]] w fun e w' => e = .returned (.tuple #[.string (textB ⟨k, s, t, r, v⟩), .nilIface]) ∧ Below w.heap.size w w' := by
  obtain ⟨_, ⟨hk, _⟩ | ⟨hk, _⟩ | ⟨hk, _⟩⟩ := right_kinds h
  · obtain rfl : k = 1 := hk
    exact print_put s t r v w h hL
  · obtain rfl : k = 2 := hk
    exact print_del s t r v w h hL
  · obtain rfl : k = 3 := hk
    exact print_gone s t r v w h hL
end Go.Proofs.YtmpfdhnjhpbjgaaDoor
