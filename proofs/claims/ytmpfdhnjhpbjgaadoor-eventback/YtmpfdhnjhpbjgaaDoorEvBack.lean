/- What an event is written as is that event; and what was read is written just so: the law's own walk. -/
import Derived.Test.YtmpfdhnjhpbjgaaDoorHappened
namespace Go.Proofs.YtmpfdhnjhpbjgaaDoor
open Go.RowKit
attribute [local go_sem ↓] Go.wp_at_zero Go.wp_at_succ
/-- What the two walks of the law lean on, at a text that is no event, or is one. -/
theorem text_len {e : Ev} (h : rightB e = true) : (textB e).size ≤ 1000 := by
  rw [Lib.size_eq, textB_data]; exact Nat.le_trans (print_len h) (by decide)
/-- An event that was written is read as it was. -/
theorem parse_text (e : Ev) (w : World) (h : rightB e = true) (hL : TabL w) (hM : TabM w) : Calls Tryd.prog 53 #[.string (textB e)] w fun x w' => x = .returned (.tuple #[.agg #[.int .i64 e.k, .string e.s, .string e.t, .string e.r, .string e.v], .nilIface]) ∧ Below w.heap.size w w' := by
  have hs := split_text h
  have q := parse_ok (textB e) w (text_len h) (by rw [hs]; exact acc_text h) hL hM
  rw [hs] at q
  exact q
set_option maxRecDepth 100000 in
set_option maxHeartbeats 1000000 in
/-- What is too long is let be. -/
theorem back_long (k : Int) (a b c d s : ByteArray) (w : World) (h : ¬ (a.size ≤ 40 ∧ b.size ≤ 40 ∧ c.size ≤ 40 ∧ d.size ≤ 60 ∧ s.size ≤ 150)) : Calls Tryd.prog 10 #[.agg #[.int .i64 k, .string a, .string b, .string c, .string d], .string s] w fun e w' => e = .returned (.bool true) ∧ Below w.heap.size w w' := by
  have bel := (Below.refl _ w).alloc (Nat.le_refl _) (.cells #[.int .i64 k, .string a, .string b, .string c, .string d] 70)
  by_cases h0 : 40 < a.size
  · have d0 : decide ((40 : Int) < (a.size : Int)) = true := by simp; omega
    go_enter Tryd.func10, Tryd.ntmps10
    go_wp2
    go_ret
    exact ⟨rfl, bel⟩
  have d0 : decide ((40 : Int) < (a.size : Int)) = false := by simp; omega
  by_cases h1 : 40 < b.size
  · have d1 : decide ((40 : Int) < (b.size : Int)) = true := by simp; omega
    go_enter Tryd.func10, Tryd.ntmps10
    go_wp2
    go_ret
    exact ⟨rfl, bel⟩
  have d1 : decide ((40 : Int) < (b.size : Int)) = false := by simp; omega
  by_cases h2 : 40 < c.size
  · have d2 : decide ((40 : Int) < (c.size : Int)) = true := by simp; omega
    go_enter Tryd.func10, Tryd.ntmps10
    go_wp2
    go_ret
    exact ⟨rfl, bel⟩
  have d2 : decide ((40 : Int) < (c.size : Int)) = false := by simp; omega
  by_cases h3 : 60 < d.size
  · have d3 : decide ((60 : Int) < (d.size : Int)) = true := by simp; omega
    go_enter Tryd.func10, Tryd.ntmps10
    go_wp2
    go_ret
    exact ⟨rfl, bel⟩
  have d3 : decide ((60 : Int) < (d.size : Int)) = false := by simp; omega
  by_cases h4 : 150 < s.size
  · have d4 : decide ((150 : Int) < (s.size : Int)) = true := by simp; omega
    go_enter Tryd.func10, Tryd.ntmps10
    go_wp2
    go_ret
    exact ⟨rfl, bel⟩
  exact absurd ⟨by omega, by omega, by omega, by omega, by omega⟩ h
set_option maxRecDepth 100000 in
set_option maxHeartbeats 1000000 in
theorem back_tt (k : Int) (a b c d s : ByteArray) (w : World) (h0 : a.size ≤ 40) (h1 : b.size ≤ 40) (h2 : c.size ≤ 40) (h3 : d.size ≤ 60) (h4 : s.size ≤ 150) (hacc : accB s (splitEv s) = true) (hr : rightB ⟨k, a, b, c, d⟩ = true) (hL : TabL w) (hM : TabM w) : Calls Tryd.prog 10 #[.agg #[.int .i64 k, .string a, .string b, .string c, .string d], .string s] w fun e w' => e = .returned (.bool true) ∧ Below w.heap.size w w' := by
  have hlL := hL.lt
  have hlM := hM.lt
  have bel := (Below.refl _ w).alloc (Nat.le_refl _) (.cells #[.int .i64 k, .string a, .string b, .string c, .string d] 70)
  have hX : HasR (w.alloc (.cells #[.int .i64 k, .string a, .string b, .string c, .string d] 70)) w.heap.size 70 #[.int .i64 k, .string a, .string b, .string c, .string d] := HasR.new w 70 _
  have HX := hide hX
  have HB := hide bel
  have hL0 := hL.below bel hlL
  have hM0 := hM.below bel hlM
  clear hX bel
  have d0 : decide ((40 : Int) < (a.size : Int)) = false := by simp; omega
  have d1 : decide ((40 : Int) < (b.size : Int)) = false := by simp; omega
  have d2 : decide ((40 : Int) < (c.size : Int)) = false := by simp; omega
  have d3 : decide ((60 : Int) < (d.size : Int)) = false := by simp; omega
  have d4 : decide ((150 : Int) < (s.size : Int)) = false := by simp; omega
  have H := hide (fun wx hLx hMx => happened_any wx hLx hMx)
  obtain ⟨hra, hta⟩ := acc_of hacc
  have A := hide (fun wx hLx hMx => parse_ok s wx (by omega) hacc hLx hMx)
  have Q := hide (fun wx hLx => print_ok (splitEv s).k (splitEv s).s (splitEv s).t (splitEv s).r (splitEv s).v wx hra hLx)
  rw [show (⟨(splitEv s).k, (splitEv s).s, (splitEv s).t, (splitEv s).r, (splitEv s).v⟩ : Ev) = splitEv s from rfl, hta] at Q
  clear hra hta hacc
  generalize (splitEv s).k = k' at A Q
  generalize (splitEv s).s = a' at A Q
  generalize (splitEv s).t = b' at A Q
  generalize (splitEv s).r = c' at A Q
  generalize (splitEv s).v = d' at A Q
  have P := hide (fun wx hLx => print_ok k a b c d wx hr hLx)
  have R := hide (fun wx hLx hMx => parse_text ⟨k, a, b, c, d⟩ wx hr hLx hMx)
  simp only at R
  generalize textB ⟨k, a, b, c, d⟩ = T at P R
  have hn := fun wx => ev_eql k a b c d wx
  have hg := guard70
  clear hr
  go_enter Tryd.func10, Tryd.ntmps10
  go_wp2_with (first
    | (go_at_call 54; (with_reducible refine (H.out _ hL0 hM0).mono ?_); rintro e w1 ⟨rfl, hb1⟩; have hL1 := hL0.below hb1 hL0.lt; have hM1 := hM0.below hb1 hM0.lt; have HX1 := hide (HX.out.below hb1 HX.out.lt); have HB1 := hide (HB.out.trans (hb1.mono HB.out.size)); clear hL0 hM0 HX HB)
    | (go_at_call 53; (with_reducible refine (A.out _ hL1 hM1).mono ?_); rintro e w2 ⟨rfl, hb2⟩; have bel2 := hb2.alloc hb2.size (.cells #[.int .i64 k', .string a', .string b', .string c', .string d'] 70); have hL2 := hL1.below bel2 hL1.lt; have hM2 := hM1.below bel2 hM1.lt; have hx := HX1.out.below hb2 HX1.out.lt; have hlt2 := hx.lt; have HX2 := hide (HX1.out.below bel2 HX1.out.lt); have HB2 := hide (HB1.out.trans (bel2.mono HB1.out.size)); have x0 : w2.cell? ⟨w.heap.size, 0, none⟩ = some (.int .i64 k) := hx.cell 0; have x1 : w2.cell? ⟨w.heap.size, 1, none⟩ = some (.string a) := hx.cell 1; have x2 : w2.cell? ⟨w.heap.size, 2, none⟩ = some (.string b) := hx.cell 2; have x3 : w2.cell? ⟨w.heap.size, 3, none⟩ = some (.string c) := hx.cell 3; have x4 : w2.cell? ⟨w.heap.size, 4, none⟩ = some (.string d) := hx.cell 4; clear hL1 hM1 HX1 HB1 hx bel2)
    | (go_at_call 49; (with_reducible refine (Q.out _ hL2).mono ?_); rintro e w3 ⟨rfl, hb3⟩; have hL3 := hL2.below hb3 hL2.lt; have hM3 := hM2.below hb3 hM2.lt; have hx := HX2.out.below hb3 HX2.out.lt; have hlt3 := hx.lt; have HX3 := hide hx; have HB3 := hide (HB2.out.trans (hb3.mono HB2.out.size)); clear x0 x1 x2 x3 x4; have x0 : w3.cell? ⟨w.heap.size, 0, none⟩ = some (.int .i64 k) := hx.cell 0; have x1 : w3.cell? ⟨w.heap.size, 1, none⟩ = some (.string a) := hx.cell 1; have x2 : w3.cell? ⟨w.heap.size, 2, none⟩ = some (.string b) := hx.cell 2; have x3 : w3.cell? ⟨w.heap.size, 3, none⟩ = some (.string c) := hx.cell 3; have x4 : w3.cell? ⟨w.heap.size, 4, none⟩ = some (.string d) := hx.cell 4; clear hL2 hM2 HX2 HB2 hx)
    | (go_at_call 49; (with_reducible refine (P.out _ hL3).mono ?_); rintro e w4 ⟨rfl, hb4⟩; have hL4 := hL3.below hb4 hL3.lt; have hM4 := hM3.below hb4 hM3.lt; have hx := HX3.out.below hb4 HX3.out.lt; have hlt4 := hx.lt; have HX4 := hide hx; have HB4 := hide (HB3.out.trans (hb4.mono HB3.out.size)); clear x0 x1 x2 x3 x4; have x0 : w4.cell? ⟨w.heap.size, 0, none⟩ = some (.int .i64 k) := hx.cell 0; have x1 : w4.cell? ⟨w.heap.size, 1, none⟩ = some (.string a) := hx.cell 1; have x2 : w4.cell? ⟨w.heap.size, 2, none⟩ = some (.string b) := hx.cell 2; have x3 : w4.cell? ⟨w.heap.size, 3, none⟩ = some (.string c) := hx.cell 3; have x4 : w4.cell? ⟨w.heap.size, 4, none⟩ = some (.string d) := hx.cell 4; clear hL3 hM3 HX3 HB3 hx)
    | (go_at_call 53; (with_reducible refine (R.out _ hL4 hM4).mono ?_); rintro e w5 ⟨rfl, hb5⟩; have hx := HX4.out.below hb5 HX4.out.lt; have hlt5 := hx.lt; have HB5 := hide (HB4.out.trans (hb5.mono HB4.out.size)); clear x0 x1 x2 x3 x4; have x0 : w5.cell? ⟨w.heap.size, 0, none⟩ = some (.int .i64 k) := hx.cell 0; have x1 : w5.cell? ⟨w.heap.size, 1, none⟩ = some (.string a) := hx.cell 1; have x2 : w5.cell? ⟨w.heap.size, 2, none⟩ = some (.string b) := hx.cell 2; have x3 : w5.cell? ⟨w.heap.size, 3, none⟩ = some (.string c) := hx.cell 3; have x4 : w5.cell? ⟨w.heap.size, 4, none⟩ = some (.string d) := hx.cell 4; clear hL4 hM4 HX4 HB4 hx))
  go_ret
  exact ⟨rfl, HB5.out.alloc HB5.out.size _⟩
set_option maxRecDepth 100000 in
set_option maxHeartbeats 1000000 in
theorem back_tf (k : Int) (a b c d s : ByteArray) (w : World) (h0 : a.size ≤ 40) (h1 : b.size ≤ 40) (h2 : c.size ≤ 40) (h3 : d.size ≤ 60) (h4 : s.size ≤ 150) (hacc : accB s (splitEv s) = true) (hr : rightB ⟨k, a, b, c, d⟩ = false) (hL : TabL w) (hM : TabM w) : Calls Tryd.prog 10 #[.agg #[.int .i64 k, .string a, .string b, .string c, .string d], .string s] w fun e w' => e = .returned (.bool true) ∧ Below w.heap.size w w' := by
  have hlL := hL.lt
  have hlM := hM.lt
  have bel := (Below.refl _ w).alloc (Nat.le_refl _) (.cells #[.int .i64 k, .string a, .string b, .string c, .string d] 70)
  have hX : HasR (w.alloc (.cells #[.int .i64 k, .string a, .string b, .string c, .string d] 70)) w.heap.size 70 #[.int .i64 k, .string a, .string b, .string c, .string d] := HasR.new w 70 _
  have HX := hide hX
  have HB := hide bel
  have hL0 := hL.below bel hlL
  have hM0 := hM.below bel hlM
  clear hX bel
  have d0 : decide ((40 : Int) < (a.size : Int)) = false := by simp; omega
  have d1 : decide ((40 : Int) < (b.size : Int)) = false := by simp; omega
  have d2 : decide ((40 : Int) < (c.size : Int)) = false := by simp; omega
  have d3 : decide ((60 : Int) < (d.size : Int)) = false := by simp; omega
  have d4 : decide ((150 : Int) < (s.size : Int)) = false := by simp; omega
  have H := hide (fun wx hLx hMx => happened_any wx hLx hMx)
  obtain ⟨hra, hta⟩ := acc_of hacc
  have A := hide (fun wx hLx hMx => parse_ok s wx (by omega) hacc hLx hMx)
  have Q := hide (fun wx hLx => print_ok (splitEv s).k (splitEv s).s (splitEv s).t (splitEv s).r (splitEv s).v wx hra hLx)
  rw [show (⟨(splitEv s).k, (splitEv s).s, (splitEv s).t, (splitEv s).r, (splitEv s).v⟩ : Ev) = splitEv s from rfl, hta] at Q
  clear hra hta hacc
  generalize (splitEv s).k = k' at A Q
  generalize (splitEv s).s = a' at A Q
  generalize (splitEv s).t = b' at A Q
  generalize (splitEv s).r = c' at A Q
  generalize (splitEv s).v = d' at A Q
  have P := hide (fun wx => print_bad k a b c d wx hr)
  have R := hide (fun wx => right_any k a b c d wx)
  rw [hr] at R
  clear hr
  go_enter Tryd.func10, Tryd.ntmps10
  go_wp2_with (first
    | (go_at_call 54; (with_reducible refine (H.out _ hL0 hM0).mono ?_); rintro e w1 ⟨rfl, hb1⟩; have hL1 := hL0.below hb1 hL0.lt; have hM1 := hM0.below hb1 hM0.lt; have HX1 := hide (HX.out.below hb1 HX.out.lt); have HB1 := hide (HB.out.trans (hb1.mono HB.out.size)); clear hL0 hM0 HX HB)
    | (go_at_call 53; (with_reducible refine (A.out _ hL1 hM1).mono ?_); rintro e w2 ⟨rfl, hb2⟩; have bel2 := hb2.alloc hb2.size (.cells #[.int .i64 k', .string a', .string b', .string c', .string d'] 70); have hL2 := hL1.below bel2 hL1.lt; have hM2 := hM1.below bel2 hM1.lt; have hx := HX1.out.below hb2 HX1.out.lt; have hlt2 := hx.lt; have HX2 := hide (HX1.out.below bel2 HX1.out.lt); have HB2 := hide (HB1.out.trans (bel2.mono HB1.out.size)); have x0 : w2.cell? ⟨w.heap.size, 0, none⟩ = some (.int .i64 k) := hx.cell 0; have x1 : w2.cell? ⟨w.heap.size, 1, none⟩ = some (.string a) := hx.cell 1; have x2 : w2.cell? ⟨w.heap.size, 2, none⟩ = some (.string b) := hx.cell 2; have x3 : w2.cell? ⟨w.heap.size, 3, none⟩ = some (.string c) := hx.cell 3; have x4 : w2.cell? ⟨w.heap.size, 4, none⟩ = some (.string d) := hx.cell 4; clear hL1 hM1 HX1 HB1 hx bel2)
    | (go_at_call 49; (with_reducible refine (Q.out _ hL2).mono ?_); rintro e w3 ⟨rfl, hb3⟩; have hL3 := hL2.below hb3 hL2.lt; have hM3 := hM2.below hb3 hM2.lt; have hx := HX2.out.below hb3 HX2.out.lt; have hlt3 := hx.lt; have HX3 := hide hx; have HB3 := hide (HB2.out.trans (hb3.mono HB2.out.size)); clear x0 x1 x2 x3 x4; have x0 : w3.cell? ⟨w.heap.size, 0, none⟩ = some (.int .i64 k) := hx.cell 0; have x1 : w3.cell? ⟨w.heap.size, 1, none⟩ = some (.string a) := hx.cell 1; have x2 : w3.cell? ⟨w.heap.size, 2, none⟩ = some (.string b) := hx.cell 2; have x3 : w3.cell? ⟨w.heap.size, 3, none⟩ = some (.string c) := hx.cell 3; have x4 : w3.cell? ⟨w.heap.size, 4, none⟩ = some (.string d) := hx.cell 4; clear hL2 hM2 HX2 HB2 hx)
    | (go_at_call 49; (with_reducible refine (P.out _).mono ?_); rintro e w4 ⟨rfl, hb4⟩; have hx := HX3.out.below hb4 HX3.out.lt; have hlt4 := hx.lt; have HB4 := hide (HB3.out.trans (hb4.mono HB3.out.size)); clear x0 x1 x2 x3 x4; have x0 : w4.cell? ⟨w.heap.size, 0, none⟩ = some (.int .i64 k) := hx.cell 0; have x1 : w4.cell? ⟨w.heap.size, 1, none⟩ = some (.string a) := hx.cell 1; have x2 : w4.cell? ⟨w.heap.size, 2, none⟩ = some (.string b) := hx.cell 2; have x3 : w4.cell? ⟨w.heap.size, 3, none⟩ = some (.string c) := hx.cell 3; have x4 : w4.cell? ⟨w.heap.size, 4, none⟩ = some (.string d) := hx.cell 4; clear hL3 hM3 HX3 HB3 hx)
    | (go_at_call 50; (with_reducible refine (R.out _).mono ?_); rintro e w5 ⟨rfl, hb5⟩; have HB5 := hide (HB4.out.trans (hb5.mono HB4.out.size))))
  go_ret
  exact ⟨rfl, HB5.out⟩
set_option maxRecDepth 100000 in
set_option maxHeartbeats 1000000 in
theorem back_ft (k : Int) (a b c d s : ByteArray) (w : World) (h0 : a.size ≤ 40) (h1 : b.size ≤ 40) (h2 : c.size ≤ 40) (h3 : d.size ≤ 60) (h4 : s.size ≤ 150) (hacc : accB s (splitEv s) = false) (hr : rightB ⟨k, a, b, c, d⟩ = true) (hL : TabL w) (hM : TabM w) : Calls Tryd.prog 10 #[.agg #[.int .i64 k, .string a, .string b, .string c, .string d], .string s] w fun e w' => e = .returned (.bool true) ∧ Below w.heap.size w w' := by
  have hlL := hL.lt
  have hlM := hM.lt
  have bel := (Below.refl _ w).alloc (Nat.le_refl _) (.cells #[.int .i64 k, .string a, .string b, .string c, .string d] 70)
  have hX : HasR (w.alloc (.cells #[.int .i64 k, .string a, .string b, .string c, .string d] 70)) w.heap.size 70 #[.int .i64 k, .string a, .string b, .string c, .string d] := HasR.new w 70 _
  have HX := hide hX
  have HB := hide bel
  have hL0 := hL.below bel hlL
  have hM0 := hM.below bel hlM
  clear hX bel
  have d0 : decide ((40 : Int) < (a.size : Int)) = false := by simp; omega
  have d1 : decide ((40 : Int) < (b.size : Int)) = false := by simp; omega
  have d2 : decide ((40 : Int) < (c.size : Int)) = false := by simp; omega
  have d3 : decide ((60 : Int) < (d.size : Int)) = false := by simp; omega
  have d4 : decide ((150 : Int) < (s.size : Int)) = false := by simp; omega
  have H := hide (fun wx hLx hMx => happened_any wx hLx hMx)
  have A := hide (fun wx hLx hMx => parse_bad s wx (by omega) hacc hLx hMx)
  clear hacc
  have P := hide (fun wx hLx => print_ok k a b c d wx hr hLx)
  have R := hide (fun wx hLx hMx => parse_text ⟨k, a, b, c, d⟩ wx hr hLx hMx)
  simp only at R
  generalize textB ⟨k, a, b, c, d⟩ = T at P R
  have hn := fun wx => ev_eql k a b c d wx
  have hg := guard70
  clear hr
  go_enter Tryd.func10, Tryd.ntmps10
  go_wp2_with (first
    | (go_at_call 54; (with_reducible refine (H.out _ hL0 hM0).mono ?_); rintro e w1 ⟨rfl, hb1⟩; have hL1 := hL0.below hb1 hL0.lt; have hM1 := hM0.below hb1 hM0.lt; have HX1 := hide (HX.out.below hb1 HX.out.lt); have HB1 := hide (HB.out.trans (hb1.mono HB.out.size)); clear hL0 hM0 HX HB)
    | (go_at_call 53; (with_reducible refine (A.out _ hL1 hM1).mono ?_); rintro e w2 ⟨rfl, hb2⟩; have bel2 := hb2.alloc hb2.size (.cells #[.int .i64 0, .string ⟨#[]⟩, .string ⟨#[]⟩, .string ⟨#[]⟩, .string ⟨#[]⟩] 70); have hL2 := hL1.below bel2 hL1.lt; have hM2 := hM1.below bel2 hM1.lt; have hx := HX1.out.below hb2 HX1.out.lt; have hlt2 := hx.lt; have HX2 := hide (HX1.out.below bel2 HX1.out.lt); have HB2 := hide (HB1.out.trans (bel2.mono HB1.out.size)); have x0 : w2.cell? ⟨w.heap.size, 0, none⟩ = some (.int .i64 k) := hx.cell 0; have x1 : w2.cell? ⟨w.heap.size, 1, none⟩ = some (.string a) := hx.cell 1; have x2 : w2.cell? ⟨w.heap.size, 2, none⟩ = some (.string b) := hx.cell 2; have x3 : w2.cell? ⟨w.heap.size, 3, none⟩ = some (.string c) := hx.cell 3; have x4 : w2.cell? ⟨w.heap.size, 4, none⟩ = some (.string d) := hx.cell 4; clear hL1 hM1 HX1 HB1 hx bel2)
    | (go_at_call 49; (with_reducible refine (P.out _ hL2).mono ?_); rintro e w4 ⟨rfl, hb4⟩; have hL4 := hL2.below hb4 hL2.lt; have hM4 := hM2.below hb4 hM2.lt; have hx := HX2.out.below hb4 HX2.out.lt; have hlt4 := hx.lt; have HX4 := hide hx; have HB4 := hide (HB2.out.trans (hb4.mono HB2.out.size)); clear x0 x1 x2 x3 x4; have x0 : w4.cell? ⟨w.heap.size, 0, none⟩ = some (.int .i64 k) := hx.cell 0; have x1 : w4.cell? ⟨w.heap.size, 1, none⟩ = some (.string a) := hx.cell 1; have x2 : w4.cell? ⟨w.heap.size, 2, none⟩ = some (.string b) := hx.cell 2; have x3 : w4.cell? ⟨w.heap.size, 3, none⟩ = some (.string c) := hx.cell 3; have x4 : w4.cell? ⟨w.heap.size, 4, none⟩ = some (.string d) := hx.cell 4; clear hL2 hM2 HX2 HB2 hx)
    | (go_at_call 53; (with_reducible refine (R.out _ hL4 hM4).mono ?_); rintro e w5 ⟨rfl, hb5⟩; have hx := HX4.out.below hb5 HX4.out.lt; have hlt5 := hx.lt; have HB5 := hide (HB4.out.trans (hb5.mono HB4.out.size)); clear x0 x1 x2 x3 x4; have x0 : w5.cell? ⟨w.heap.size, 0, none⟩ = some (.int .i64 k) := hx.cell 0; have x1 : w5.cell? ⟨w.heap.size, 1, none⟩ = some (.string a) := hx.cell 1; have x2 : w5.cell? ⟨w.heap.size, 2, none⟩ = some (.string b) := hx.cell 2; have x3 : w5.cell? ⟨w.heap.size, 3, none⟩ = some (.string c) := hx.cell 3; have x4 : w5.cell? ⟨w.heap.size, 4, none⟩ = some (.string d) := hx.cell 4; clear hL4 hM4 HX4 HB4 hx))
  go_ret
  exact ⟨rfl, HB5.out.alloc HB5.out.size _⟩
set_option maxRecDepth 100000 in
set_option maxHeartbeats 1000000 in
theorem back_ff (k : Int) (a b c d s : ByteArray) (w : World) (h0 : a.size ≤ 40) (h1 : b.size ≤ 40) (h2 : c.size ≤ 40) (h3 : d.size ≤ 60) (h4 : s.size ≤ 150) (hacc : accB s (splitEv s) = false) (hr : rightB ⟨k, a, b, c, d⟩ = false) (hL : TabL w) (hM : TabM w) : Calls Tryd.prog 10 #[.agg #[.int .i64 k, .string a, .string b, .string c, .string d], .string s] w fun e w' => e = .returned (.bool true) ∧ Below w.heap.size w w' := by
  have hlL := hL.lt
  have hlM := hM.lt
  have bel := (Below.refl _ w).alloc (Nat.le_refl _) (.cells #[.int .i64 k, .string a, .string b, .string c, .string d] 70)
  have hX : HasR (w.alloc (.cells #[.int .i64 k, .string a, .string b, .string c, .string d] 70)) w.heap.size 70 #[.int .i64 k, .string a, .string b, .string c, .string d] := HasR.new w 70 _
  have HX := hide hX
  have HB := hide bel
  have hL0 := hL.below bel hlL
  have hM0 := hM.below bel hlM
  clear hX bel
  have d0 : decide ((40 : Int) < (a.size : Int)) = false := by simp; omega
  have d1 : decide ((40 : Int) < (b.size : Int)) = false := by simp; omega
  have d2 : decide ((40 : Int) < (c.size : Int)) = false := by simp; omega
  have d3 : decide ((60 : Int) < (d.size : Int)) = false := by simp; omega
  have d4 : decide ((150 : Int) < (s.size : Int)) = false := by simp; omega
  have H := hide (fun wx hLx hMx => happened_any wx hLx hMx)
  have A := hide (fun wx hLx hMx => parse_bad s wx (by omega) hacc hLx hMx)
  clear hacc
  have P := hide (fun wx => print_bad k a b c d wx hr)
  have R := hide (fun wx => right_any k a b c d wx)
  rw [hr] at R
  clear hr
  go_enter Tryd.func10, Tryd.ntmps10
  go_wp2_with (first
    | (go_at_call 54; (with_reducible refine (H.out _ hL0 hM0).mono ?_); rintro e w1 ⟨rfl, hb1⟩; have hL1 := hL0.below hb1 hL0.lt; have hM1 := hM0.below hb1 hM0.lt; have HX1 := hide (HX.out.below hb1 HX.out.lt); have HB1 := hide (HB.out.trans (hb1.mono HB.out.size)); clear hL0 hM0 HX HB)
    | (go_at_call 53; (with_reducible refine (A.out _ hL1 hM1).mono ?_); rintro e w2 ⟨rfl, hb2⟩; have bel2 := hb2.alloc hb2.size (.cells #[.int .i64 0, .string ⟨#[]⟩, .string ⟨#[]⟩, .string ⟨#[]⟩, .string ⟨#[]⟩] 70); have hL2 := hL1.below bel2 hL1.lt; have hM2 := hM1.below bel2 hM1.lt; have hx := HX1.out.below hb2 HX1.out.lt; have hlt2 := hx.lt; have HX2 := hide (HX1.out.below bel2 HX1.out.lt); have HB2 := hide (HB1.out.trans (bel2.mono HB1.out.size)); have x0 : w2.cell? ⟨w.heap.size, 0, none⟩ = some (.int .i64 k) := hx.cell 0; have x1 : w2.cell? ⟨w.heap.size, 1, none⟩ = some (.string a) := hx.cell 1; have x2 : w2.cell? ⟨w.heap.size, 2, none⟩ = some (.string b) := hx.cell 2; have x3 : w2.cell? ⟨w.heap.size, 3, none⟩ = some (.string c) := hx.cell 3; have x4 : w2.cell? ⟨w.heap.size, 4, none⟩ = some (.string d) := hx.cell 4; clear hL1 hM1 HX1 HB1 hx bel2)
    | (go_at_call 49; (with_reducible refine (P.out _).mono ?_); rintro e w4 ⟨rfl, hb4⟩; have hx := HX2.out.below hb4 HX2.out.lt; have hlt4 := hx.lt; have HB4 := hide (HB2.out.trans (hb4.mono HB2.out.size)); clear x0 x1 x2 x3 x4; have x0 : w4.cell? ⟨w.heap.size, 0, none⟩ = some (.int .i64 k) := hx.cell 0; have x1 : w4.cell? ⟨w.heap.size, 1, none⟩ = some (.string a) := hx.cell 1; have x2 : w4.cell? ⟨w.heap.size, 2, none⟩ = some (.string b) := hx.cell 2; have x3 : w4.cell? ⟨w.heap.size, 3, none⟩ = some (.string c) := hx.cell 3; have x4 : w4.cell? ⟨w.heap.size, 4, none⟩ = some (.string d) := hx.cell 4; clear hL2 hM2 HX2 HB2 hx)
    | (go_at_call 50; (with_reducible refine (R.out _).mono ?_); rintro e w5 ⟨rfl, hb5⟩; have HB5 := hide (HB4.out.trans (hb5.mono HB4.out.size))))
  go_ret
  exact ⟨rfl, HB5.out⟩
/-- The law, whatever the event and the text. -/
theorem eventBack_any (k : Int) (a b c d s : ByteArray) (w : World) (hL : TabL w) (hM : TabM w) : Calls Tryd.prog 10 #[.agg #[.int .i64 k, .string a, .string b, .string c, .string d], .string s] w fun e w' => e = .returned (.bool true) ∧ Below w.heap.size w w' := by
  by_cases h : a.size ≤ 40 ∧ b.size ≤ 40 ∧ c.size ≤ 40 ∧ d.size ≤ 60 ∧ s.size ≤ 150
  · obtain ⟨h0, h1, h2, h3, h4⟩ := h
    cases hacc : accB s (splitEv s) <;> cases hr : rightB ⟨k, a, b, c, d⟩
    · exact back_ff k a b c d s w h0 h1 h2 h3 h4 hacc hr hL hM
    · exact back_ft k a b c d s w h0 h1 h2 h3 h4 hacc hr hL hM
    · exact back_tf k a b c d s w h0 h1 h2 h3 h4 hacc hr hL hM
    · exact back_tt k a b c d s w h0 h1 h2 h3 h4 hacc hr hL hM
  · exact back_long k a b c d s w h
end Go.Proofs.YtmpfdhnjhpbjgaaDoor
