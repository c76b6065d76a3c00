/- Which event a text is: the program's own Parse. -/
import Derived.Test.YtmpfdhnjhpbjgaaDoorSplit
namespace Go.Proofs.YtmpfdhnjhpbjgaaDoor
open Go.RowKit
attribute [local go_sem ↓] Go.wp_at_zero Go.wp_at_succ
theorem text_ne {a b : ByteArray} (h : ¬ a.data.toList = b.data.toList) : (a.toList == b.toList) = false := by
  rw [Lib.toList_data, Lib.toList_data, beq_eq_false_iff_ne]; exact h
set_option maxRecDepth 100000 in
set_option maxHeartbeats 1000000 in
theorem parse_ok (s : ByteArray) (w : World) (hs : s.size ≤ 1000) (h : accB s (splitEv s) = true) (hL : TabL w) (hM : TabM w) : Calls Tryd.prog 53 #[.string s] w fun e w' => e = .returned (.tuple #[.agg #[.int .i64 (splitEv s).k, .string (splitEv s).s, .string (splitEv s).t, .string (splitEv s).r, .string (splitEv s).v], .nilIface]) ∧ Below w.heap.size w w' := by
  obtain ⟨hr, ht⟩ := acc_of h
  have hlM := hM.lt
  have hlL := hL.lt
  have S := hide (fun wx (hLx : TabL wx) (hMx : TabM wx) => split_ev s wx hs hLx hMx)
  have P := hide (fun wx (hLx : TabL wx) => print_ok (splitEv s).k (splitEv s).s (splitEv s).t (splitEv s).r (splitEv s).v wx hr hLx)
  have e0 : (⟨(splitEv s).k, (splitEv s).s, (splitEv s).t, (splitEv s).r, (splitEv s).v⟩ : Ev) = splitEv s := rfl
  rw [e0, ht] at P
  clear e0 hr ht h
  generalize (splitEv s).k = k at S P ⊢
  generalize (splitEv s).s = a at S P ⊢
  generalize (splitEv s).t = b at S P ⊢
  generalize (splitEv s).r = c at S P ⊢
  generalize (splitEv s).v = d at S P ⊢
  have bel := (Below.refl _ w).alloc (Nat.le_refl _) (.cells #[.int .i64 0, .string ⟨#[]⟩, .string ⟨#[]⟩, .string ⟨#[]⟩, .string ⟨#[]⟩] 70)
  have hz : HasR (w.alloc (.cells #[.int .i64 0, .string ⟨#[]⟩, .string ⟨#[]⟩, .string ⟨#[]⟩, .string ⟨#[]⟩] 70)) w.heap.size 70 #[.int .i64 0, .string ⟨#[]⟩, .string ⟨#[]⟩, .string ⟨#[]⟩, .string ⟨#[]⟩] := HasR.new w 70 _
  have HB := hide bel
  have HZ := hide hz
  have hL0 := hL.below bel hlL
  have hM0 := hM.below bel hlM
  clear bel hz
  go_enter Tryd.func53, Tryd.ntmps53
  go_wp2_with (first
    | (go_at_call 85; (with_reducible refine (S.out _ hL0 hM0).mono ?_); rintro e w1 ⟨rfl, hb1⟩; have hL1 := hL0.below hb1 hL0.lt; have hM1 := hM0.below hb1 hM0.lt; have HZ1 := hide (HZ.out.below hb1 HZ.out.lt); have HB1 := hide (HB.out.trans (hb1.mono HB.out.size)); clear hL0 hM0 HZ HB)
    | (go_at_call 49; (with_reducible refine (P.out _ hL1).mono ?_); rintro e w2 ⟨rfl, hb2⟩; have hL2 := hL1.below hb2 hL1.lt; have hM2 := hM1.below hb2 hM1.lt; have HZ2 := hide (HZ1.out.below hb2 HZ1.out.lt); have HB2 := hide (HB1.out.trans (hb2.mono HB1.out.size)); clear hL1 hM1 HZ1 HB1)
    | (go_at_call 85; (with_reducible refine (S.out _ hL2 hM2).mono ?_); rintro e w3 ⟨rfl, hb3⟩; have hz3 := HZ2.out.below hb3 HZ2.out.lt; have HZ3 := hide hz3; have HB3 := hide (HB2.out.trans (hb3.mono HB2.out.size)); have z0 : w3.cell? ⟨w.heap.size, 0, none⟩ = some (.int .i64 0) := hz3.cell 0; have z1 : w3.cell? ⟨w.heap.size, 1, none⟩ = some (.string ⟨#[]⟩) := hz3.cell 1; have z2 : w3.cell? ⟨w.heap.size, 2, none⟩ = some (.string ⟨#[]⟩) := hz3.cell 2; have z3 : w3.cell? ⟨w.heap.size, 3, none⟩ = some (.string ⟨#[]⟩) := hz3.cell 3; have z4 : w3.cell? ⟨w.heap.size, 4, none⟩ = some (.string ⟨#[]⟩) := hz3.cell 4; have f0 := hz3.free 0; have f1 := hz3.free 1; have f2 := hz3.free 2; have f3 := hz3.free 3; have f4 := hz3.free 4; clear hz3 hL2 hM2 HZ2 HB2))
  have hW := HasR.whole HZ3.out [.int .i64 k, .string a, .string b, .string c, .string d] rfl
  have hBW := below_setCells [.int .i64 k, .string a, .string b, .string c, .string d] 0 _ _ _ _ HB3.out (Nat.le_refl _)
  refine bodyPost_ret (v := .tuple #[.agg #[.int .i64 k, .string a, .string b, .string c, .string d], .nilIface]) ?_ rfl ⟨rfl, hBW⟩
  have q0 := hW.cell 0
  have q1 := hW.cell 1
  have q2 := hW.cell 2
  have q3 := hW.cell 3
  have q4 := hW.cell 4
  simp only [World.setCells] at q0 q1 q2 q3 q4
  simp [results, Tryd.results53, go_sem, q0, q1, q2, q3, q4]
theorem zero_store {w w2 : World} {B : Nat} (h : HasR w2 B 70 #[.int .i64 0, .string ⟨#[]⟩, .string ⟨#[]⟩, .string ⟨#[]⟩, .string ⟨#[]⟩]) (hb : Below B w w2) : Below B w (w2.setCells B 0 [.int .i64 0, .string ⟨#[]⟩, .string ⟨#[]⟩, .string ⟨#[]⟩, .string ⟨#[]⟩]) ∧ HasR (w2.setCells B 0 [.int .i64 0, .string ⟨#[]⟩, .string ⟨#[]⟩, .string ⟨#[]⟩, .string ⟨#[]⟩]) B 70 #[.int .i64 0, .string ⟨#[]⟩, .string ⟨#[]⟩, .string ⟨#[]⟩, .string ⟨#[]⟩] :=
  ⟨below_setCells _ 0 _ _ _ _ hb (Nat.le_refl _), HasR.whole h _ rfl⟩
set_option maxRecDepth 100000 in
set_option maxHeartbeats 1000000 in
theorem parse_bad (s : ByteArray) (w : World) (hs : s.size ≤ 1000) (h : accB s (splitEv s) = false) (hL : TabL w) (hM : TabM w) : Calls Tryd.prog 53 #[.string s] w fun e w' => e = .returned (.tuple #[.agg #[.int .i64 0, .string ⟨#[]⟩, .string ⟨#[]⟩, .string ⟨#[]⟩, .string ⟨#[]⟩], .iface 30 (.int .i64 3)]) ∧ Below w.heap.size w w' := by
  have hlM := hM.lt
  have hlL := hL.lt
  have S := hide (fun wx (hLx : TabL wx) (hMx : TabM wx) => split_ev s wx hs hLx hMx)
  have e0 : (⟨(splitEv s).k, (splitEv s).s, (splitEv s).t, (splitEv s).r, (splitEv s).v⟩ : Ev) = splitEv s := rfl
  have bel := (Below.refl _ w).alloc (Nat.le_refl _) (.cells #[.int .i64 0, .string ⟨#[]⟩, .string ⟨#[]⟩, .string ⟨#[]⟩, .string ⟨#[]⟩] 70)
  have hz : HasR (w.alloc (.cells #[.int .i64 0, .string ⟨#[]⟩, .string ⟨#[]⟩, .string ⟨#[]⟩, .string ⟨#[]⟩] 70)) w.heap.size 70 #[.int .i64 0, .string ⟨#[]⟩, .string ⟨#[]⟩, .string ⟨#[]⟩, .string ⟨#[]⟩] := HasR.new w 70 _
  have HB := hide bel
  have HZ := hide hz
  have hL0 := hL.below bel hlL
  have hM0 := hM.below bel hlM
  clear bel hz
  cases hr : rightB (splitEv s)
  · have P := hide (fun wx => print_bad (splitEv s).k (splitEv s).s (splitEv s).t (splitEv s).r (splitEv s).v wx hr)
    clear e0 hr h
    generalize (splitEv s).k = k at S P
    generalize (splitEv s).s = a at S P
    generalize (splitEv s).t = b at S P
    generalize (splitEv s).r = c at S P
    generalize (splitEv s).v = d at S P
    go_enter Tryd.func53, Tryd.ntmps53
    go_wp2_with (first
      | (go_at_call 85; (with_reducible refine (S.out _ hL0 hM0).mono ?_); rintro e w1 ⟨rfl, hb1⟩; have HZ1 := hide (HZ.out.below hb1 HZ.out.lt); have HB1 := hide (HB.out.trans (hb1.mono HB.out.size)); clear hL0 hM0 HZ HB)
      | (go_at_call 49; (with_reducible refine (P.out _).mono ?_); rintro e w3 ⟨rfl, hb3⟩; have hz3 := HZ1.out.below hb3 HZ1.out.lt; have HZ3 := hide hz3; have HB3 := hide (HB1.out.trans (hb3.mono HB1.out.size)); have z0 : w3.cell? ⟨w.heap.size, 0, none⟩ = some (.int .i64 0) := hz3.cell 0; have z1 : w3.cell? ⟨w.heap.size, 1, none⟩ = some (.string ⟨#[]⟩) := hz3.cell 1; have z2 : w3.cell? ⟨w.heap.size, 2, none⟩ = some (.string ⟨#[]⟩) := hz3.cell 2; have z3 : w3.cell? ⟨w.heap.size, 3, none⟩ = some (.string ⟨#[]⟩) := hz3.cell 3; have z4 : w3.cell? ⟨w.heap.size, 4, none⟩ = some (.string ⟨#[]⟩) := hz3.cell 4; have f0 := hz3.free 0; have f1 := hz3.free 1; have f2 := hz3.free 2; have f3 := hz3.free 3; have f4 := hz3.free 4; clear hz3 HZ1 HB1))
    obtain ⟨hBW, hW⟩ := zero_store HZ3.out HB3.out
    refine bodyPost_ret (v := .tuple #[.agg #[.int .i64 0, .string ⟨#[]⟩, .string ⟨#[]⟩, .string ⟨#[]⟩, .string ⟨#[]⟩], .iface 30 (.int .i64 3)]) ?_ rfl ⟨rfl, hBW⟩
    have q0 := hW.cell 0
    have q1 := hW.cell 1
    have q2 := hW.cell 2
    have q3 := hW.cell 3
    have q4 := hW.cell 4
    simp only [World.setCells] at q0 q1 q2 q3 q4
    simp [results, Tryd.results53, go_sem, q0, q1, q2, q3, q4]
  · have P := hide (fun wx (hLx : TabL wx) => print_ok (splitEv s).k (splitEv s).s (splitEv s).t (splitEv s).r (splitEv s).v wx hr hLx)
    rw [e0] at P
    have hne : ((textB (splitEv s)).toList == s.toList) = false := by
      refine text_ne fun e => ?_
      unfold accB at h
      rw [hr, Bool.true_and, ← e] at h
      exact absurd rfl (of_decide_eq_false h)
    clear e0 hr h
    generalize textB (splitEv s) = T at P hne
    generalize (splitEv s).k = k at S P
    generalize (splitEv s).s = a at S P
    generalize (splitEv s).t = b at S P
    generalize (splitEv s).r = c at S P
    generalize (splitEv s).v = d at S P
    go_enter Tryd.func53, Tryd.ntmps53
    go_wp2_with (first
      | (go_at_call 85; (with_reducible refine (S.out _ hL0 hM0).mono ?_); rintro e w1 ⟨rfl, hb1⟩; have hL1 := hL0.below hb1 hL0.lt; have HZ1 := hide (HZ.out.below hb1 HZ.out.lt); have HB1 := hide (HB.out.trans (hb1.mono HB.out.size)); clear hL0 hM0 HZ HB)
      | (go_at_call 49; (with_reducible refine (P.out _ hL1).mono ?_); rintro e w3 ⟨rfl, hb3⟩; have hz3 := HZ1.out.below hb3 HZ1.out.lt; have HZ3 := hide hz3; have HB3 := hide (HB1.out.trans (hb3.mono HB1.out.size)); have z0 : w3.cell? ⟨w.heap.size, 0, none⟩ = some (.int .i64 0) := hz3.cell 0; have z1 : w3.cell? ⟨w.heap.size, 1, none⟩ = some (.string ⟨#[]⟩) := hz3.cell 1; have z2 : w3.cell? ⟨w.heap.size, 2, none⟩ = some (.string ⟨#[]⟩) := hz3.cell 2; have z3 : w3.cell? ⟨w.heap.size, 3, none⟩ = some (.string ⟨#[]⟩) := hz3.cell 3; have z4 : w3.cell? ⟨w.heap.size, 4, none⟩ = some (.string ⟨#[]⟩) := hz3.cell 4; have f0 := hz3.free 0; have f1 := hz3.free 1; have f2 := hz3.free 2; have f3 := hz3.free 3; have f4 := hz3.free 4; clear hz3 HZ1 HB1 hL1))
    obtain ⟨hBW, hW⟩ := zero_store HZ3.out HB3.out
    refine bodyPost_ret (v := .tuple #[.agg #[.int .i64 0, .string ⟨#[]⟩, .string ⟨#[]⟩, .string ⟨#[]⟩, .string ⟨#[]⟩], .iface 30 (.int .i64 3)]) ?_ rfl ⟨rfl, hBW⟩
    have q0 := hW.cell 0
    have q1 := hW.cell 1
    have q2 := hW.cell 2
    have q3 := hW.cell 3
    have q4 := hW.cell 4
    simp only [World.setCells] at q0 q1 q2 q3 q4
    simp [results, Tryd.results53, go_sem, q0, q1, q2, q3, q4]
end Go.Proofs.YtmpfdhnjhpbjgaaDoor
