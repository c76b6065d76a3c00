/- The law of reading and writing, at whatever event and text that is short enough. -/
import Derived.Test.YtmpfdhnjhpbjgaaDoorEvReads
namespace Go.Proofs.YtmpfdhnjhpbjgaaDoor
open Go.RowKit
attribute [local go_sem ↓] Go.wp_at_zero Go.wp_at_succ
/-- What the walks lean on of the variables. -/
def Tabs (w : World) : Prop := TabL w ∧ TabM w ∧ TabE w
theorem Tabs.below {w w' : World} (h : Tabs w) (hb : Below w.heap.size w w') : Tabs w' := ⟨h.1.below hb h.1.lt, h.2.1.below hb h.2.1.lt, h.2.2.below hb h.2.2.lt⟩
theorem Tabs.L {w : World} (h : Tabs w) : TabL w := h.1
theorem Tabs.M {w : World} (h : Tabs w) : TabM w := h.2.1
theorem Tabs.E {w : World} (h : Tabs w) : TabE w := h.2.2
theorem Tabs.drew {w : World} (h : Tabs w) : Tabs w.drew := h.below (Below.refl _ w).drew
set_option maxRecDepth 100000 in
set_option maxHeartbeats 2000000 in
theorem reads_short (k : Int) (a b c d s : ByteArray) (w : World) (ha : a.size ≤ 60) (hb : b.size ≤ 60) (hc : c.size ≤ 60) (hd : d.size ≤ 60) (hs : s.size ≤ 150) (hT : Tabs w) : Calls Tryd.prog 9 #[.agg #[.int .i64 k, .string a, .string b, .string c, .string d], .string s] w fun e w' => e = .returned (.bool true) ∧ Below w.heap.size w w' := by
  have L := hide (fun wx => longEvent_any k a b c d wx)
  have hl : (decide (60 < a.size) || (decide (60 < b.size) || (decide (60 < c.size) || decide (60 < d.size)))) = false := by simp; omega
  rw [hl] at L
  have d1 : decide ((150 : Int) < (s.size : Int)) = false := by simp; omega
  obtain ⟨T, err, n, p1, p2, p3⟩ := print_both k a b c d (by omega) (by omega) (by omega) (by omega)
  have P1 := hide p1
  have P2 := hide p2
  have P3 := hide p3
  have R1 := hide (fun wx => right_any k a b c d wx)
  have R2 := hide (fun wx => refRight_any k a b c d wx (by omega) (by omega) (by omega) (by omega))
  generalize rightB ⟨k, a, b, c, d⟩ = rr at R1 R2
  obtain ⟨k', a', b', c', d', err', n', q1, q2, q3⟩ := parse_both s hs
  have Q1 := hide q1
  have Q2 := hide q2
  have Q3 := hide q3
  have he := fun wx => ev_eql k' a' b' c' d' wx
  have hg := guard70
  have bel := (Below.refl _ w).alloc (Nat.le_refl _) (.cells #[.int .i64 k, .string a, .string b, .string c, .string d] 70)
  have hX : HasR (w.alloc (.cells #[.int .i64 k, .string a, .string b, .string c, .string d] 70)) w.heap.size 70 #[.int .i64 k, .string a, .string b, .string c, .string d] := HasR.new w 70 _
  have HX0 := hide hX
  have HB0 := hide bel
  have T0 := hT.below bel
  clear hl p1 p2 p3 q1 q2 q3 hX bel hT ha hb hc hd hs
  go_enter Tryd.func9, Tryd.ntmps9
  go_upto_region 5 with (first
    | (go_at_call 47; (with_reducible refine (L.out _).mono ?_); rintro e w1 ⟨rfl, hb1⟩; have T1 := T0.below hb1; have hx := HX0.out.below hb1 HX0.out.lt; have HX1 := hide hx; have HB1 := hide (HB0.out.trans (hb1.mono HB0.out.size)); have x0 : w1.cell? ⟨w.heap.size, 0, none⟩ = some (.int .i64 k) := hx.cell 0; have x1 : w1.cell? ⟨w.heap.size, 1, none⟩ = some (.string a) := hx.cell 1; have x2 : w1.cell? ⟨w.heap.size, 2, none⟩ = some (.string b) := hx.cell 2; have x3 : w1.cell? ⟨w.heap.size, 3, none⟩ = some (.string c) := hx.cell 3; have x4 : w1.cell? ⟨w.heap.size, 4, none⟩ = some (.string d) := hx.cell 4; clear hx HX0 HB0 T0)
    | (go_at_call 48; (with_reducible refine (P1.out _).mono ?_); rintro e w2 ⟨rfl, hb2⟩; have T2 := T1.below hb2; have hx := HX1.out.below hb2 HX1.out.lt; have HX2 := hide hx; have HB2 := hide (HB1.out.trans (hb2.mono HB1.out.size)); clear x0 x1 x2 x3 x4; have x0 : w2.cell? ⟨w.heap.size, 0, none⟩ = some (.int .i64 k) := hx.cell 0; have x1 : w2.cell? ⟨w.heap.size, 1, none⟩ = some (.string a) := hx.cell 1; have x2 : w2.cell? ⟨w.heap.size, 2, none⟩ = some (.string b) := hx.cell 2; have x3 : w2.cell? ⟨w.heap.size, 3, none⟩ = some (.string c) := hx.cell 3; have x4 : w2.cell? ⟨w.heap.size, 4, none⟩ = some (.string d) := hx.cell 4; clear hx HX1 HB1 T1)
    | (go_at_call 49; (with_reducible refine (P2.out _ T2.L).mono ?_); rintro e w3 ⟨rfl, hb3⟩; have T3 := T2.below hb3; have HX3 := hide (HX2.out.below hb3 HX2.out.lt); have HB3 := hide (HB2.out.trans (hb3.mono HB2.out.size)); clear x0 x1 x2 x3 x4 HX2 HB2 T2))
  have HT3 := hide T3.drew
  clear T3 L P1 P2 d1
  go_cut [43] (fun v wx => v = .bool false ∧ Tabs wx ∧ Below w.heap.size w wx)
  case first =>
    clear he hg Q1 Q2 Q3
    have hx := HX3.out
    have x0 : w3.cell? ⟨w.heap.size, 0, none⟩ = some (.int .i64 k) := hx.cell 0;  have x1 : w3.cell? ⟨w.heap.size, 1, none⟩ = some (.string a) := hx.cell 1;  have x2 : w3.cell? ⟨w.heap.size, 2, none⟩ = some (.string b) := hx.cell 2;  have x3 : w3.cell? ⟨w.heap.size, 3, none⟩ = some (.string c) := hx.cell 3;  have x4 : w3.cell? ⟨w.heap.size, 4, none⟩ = some (.string d) := hx.cell 4
    clear hx
    have l3 := HX3.out.lt
    go_region_held3 (fun wx => wx.cell? ⟨w.heap.size, 0, none⟩ = some (.int .i64 k) ∧ wx.cell? ⟨w.heap.size, 1, none⟩ = some (.string a) ∧ wx.cell? ⟨w.heap.size, 2, none⟩ = some (.string b) ∧ wx.cell? ⟨w.heap.size, 3, none⟩ = some (.string c) ∧ wx.cell? ⟨w.heap.size, 4, none⟩ = some (.string d)) (first | (with_reducible exact ⟨x0, x1, x2, x3, x4⟩) | go_keep)
      (first
      | (go_at_call 23; (with_reducible refine (P3.out _ HT3.out.E).mono ?_); rintro e w4 ⟨rfl, hb4⟩; have T4 := hide (HT3.out.below hb4); have hx := HX3.out.drew.below hb4 l3; have HX4 := hide hx; have HB4 := hide (HB3.out.trans ((below_of_drew hb4).mono HB3.out.size)); clear x0 x1 x2 x3 x4; have x0 : w4.cell? ⟨w.heap.size, 0, none⟩ = some (.int .i64 k) := hx.cell 0; have x1 : w4.cell? ⟨w.heap.size, 1, none⟩ = some (.string a) := hx.cell 1; have x2 : w4.cell? ⟨w.heap.size, 2, none⟩ = some (.string b) := hx.cell 2; have x3 : w4.cell? ⟨w.heap.size, 3, none⟩ = some (.string c) := hx.cell 3; have x4 : w4.cell? ⟨w.heap.size, 4, none⟩ = some (.string d) := hx.cell 4; clear hx)
      | (go_at_call 50; (with_reducible refine (R1.out _).mono ?_); rintro e w5 ⟨rfl, hb5⟩; (first | have HX5 := hide (HX6.out.below hb5 HX6.out.lt) | have HX5 := hide (HX4.out.below hb5 HX4.out.lt)); (first | have T5 := hide (T6.out.below hb5) | have T5 := hide (T4.out.below hb5)); (first | have HB5 := hide (HB6.out.trans (hb5.mono HB6.out.size)) | have HB5 := hide (HB4.out.trans (hb5.mono HB4.out.size))); have hx := HX5.out; clear x0 x1 x2 x3 x4; have x0 : w5.cell? ⟨w.heap.size, 0, none⟩ = some (.int .i64 k) := hx.cell 0; have x1 : w5.cell? ⟨w.heap.size, 1, none⟩ = some (.string a) := hx.cell 1; have x2 : w5.cell? ⟨w.heap.size, 2, none⟩ = some (.string b) := hx.cell 2; have x3 : w5.cell? ⟨w.heap.size, 3, none⟩ = some (.string c) := hx.cell 3; have x4 : w5.cell? ⟨w.heap.size, 4, none⟩ = some (.string d) := hx.cell 4; clear hx)
      | (go_at_call 51; (with_reducible refine (R2.out _).mono ?_); rintro e w6 ⟨rfl, hb6⟩; (first | have HX6 := hide (HX5.out.below hb6 HX5.out.lt) | have HX6 := hide (HX4.out.below hb6 HX4.out.lt)); (first | have T6 := hide (T5.out.below hb6) | have T6 := hide (T4.out.below hb6)); (first | have HB6 := hide (HB5.out.trans (hb6.mono HB5.out.size)) | have HB6 := hide (HB4.out.trans (hb6.mono HB4.out.size))); have hx := HX6.out; clear x0 x1 x2 x3 x4; have x0 : w6.cell? ⟨w.heap.size, 0, none⟩ = some (.int .i64 k) := hx.cell 0; have x1 : w6.cell? ⟨w.heap.size, 1, none⟩ = some (.string a) := hx.cell 1; have x2 : w6.cell? ⟨w.heap.size, 2, none⟩ = some (.string b) := hx.cell 2; have x3 : w6.cell? ⟨w.heap.size, 3, none⟩ = some (.string c) := hx.cell 3; have x4 : w6.cell? ⟨w.heap.size, 4, none⟩ = some (.string d) := hx.cell 4; clear hx))
    all_goals (
      go_wp2
      go_meet
      case rel => first
        | exact ⟨by simp, T6.out, HB6.out⟩
        | exact ⟨by simp, T5.out, HB5.out⟩)
  case rest =>
    obtain ⟨rfl, T5, hB5⟩ := hcut
    have HB5 := hide hB5
    clear HX3 HB3 HT3 P3 R1 R2 hB5
    go_wp2_with (first
      | (go_at_call 52; (with_reducible refine (Q1.out _ T5.M).mono ?_); rintro e w6 ⟨rfl, hb6⟩; have bel6 := hb6.alloc hb6.size (.cells #[.int .i64 k', .string a', .string b', .string c', .string d'] 70); have T6 := T5.below bel6; have HB6 := hide (HB5.out.trans (bel6.mono HB5.out.size)); have hx6 := HasR.new w6 70 #[.int .i64 k', .string a', .string b', .string c', .string d']; have HX6 := hide hx6; clear hx6 bel6 T5 HB5)
      | (go_at_call 53; (with_reducible refine (Q2.out _ T6.L T6.M).mono ?_); rintro e w7 ⟨rfl, hb7⟩; have bel7 := hb7.alloc hb7.size (.cells #[.int .i64 k', .string a', .string b', .string c', .string d'] 70); have T7 := T6.below bel7; have HB7 := hide (HB6.out.trans (bel7.mono HB6.out.size)); have HX7 := hide ((HX6.out.below hb7 HX6.out.lt).alloc (.cells #[.int .i64 k', .string a', .string b', .string c', .string d'] 70)); have HY7 := hide (HasR.new w7 70 #[.int .i64 k', .string a', .string b', .string c', .string d']); clear T6 HB6 HX6 bel7)
      | (go_at_call 23; (with_reducible refine (Q3.out _ T7.E).mono ?_); rintro e w8 ⟨rfl, hb8⟩; have HB8 := hide (HB7.out.trans (hb8.mono HB7.out.size)); have hx := HX7.out.below hb8 HX7.out.lt; have hy := HY7.out.below hb8 HY7.out.lt; have x0 : w8.cell? ⟨w6.heap.size, 0, none⟩ = some (.int .i64 k') := hx.cell 0; have x1 : w8.cell? ⟨w6.heap.size, 1, none⟩ = some (.string a') := hx.cell 1; have x2 : w8.cell? ⟨w6.heap.size, 2, none⟩ = some (.string b') := hx.cell 2; have x3 : w8.cell? ⟨w6.heap.size, 3, none⟩ = some (.string c') := hx.cell 3; have x4 : w8.cell? ⟨w6.heap.size, 4, none⟩ = some (.string d') := hx.cell 4; have y0 : w8.cell? ⟨w7.heap.size, 0, none⟩ = some (.int .i64 k') := hy.cell 0; have y1 : w8.cell? ⟨w7.heap.size, 1, none⟩ = some (.string a') := hy.cell 1; have y2 : w8.cell? ⟨w7.heap.size, 2, none⟩ = some (.string b') := hy.cell 2; have y3 : w8.cell? ⟨w7.heap.size, 3, none⟩ = some (.string c') := hy.cell 3; have y4 : w8.cell? ⟨w7.heap.size, 4, none⟩ = some (.string d') := hy.cell 4; clear hx hy T7 HB7 HX7 HY7))
    go_ret
    exact ⟨rfl, HB8.out⟩
/-- The law, whatever the event and the text. -/
theorem eventReads_any (k : Int) (a b c d s : ByteArray) (w : World) (hT : Tabs w) : Calls Tryd.prog 9 #[.agg #[.int .i64 k, .string a, .string b, .string c, .string d], .string s] w fun e w' => e = .returned (.bool true) ∧ Below w.heap.size w w' := by
  cases hl : (decide (60 < a.size) || (decide (60 < b.size) || (decide (60 < c.size) || decide (60 < d.size))))
  · by_cases hs : 150 < s.size
    · exact reads_long k a b c d s w (.inr hs)
    · simp at hl
      exact reads_short k a b c d s w (by omega) (by omega) (by omega) (by omega) (by omega) hT
  · exact reads_long k a b c d s w (.inl hl)
end Go.Proofs.YtmpfdhnjhpbjgaaDoor
