/- A text's words, taken for an event's parts: the program's own split. -/
import Derived.Test.YtmpfdhnjhpbjgaaDoorKind
import Derived.Laws.CopyOwn
import Derived.Deep.RegionHeld3
namespace Go.Proofs.YtmpfdhnjhpbjgaaDoor
open Go.RowKit
attribute [local go_sem ↓] Go.wp_at_zero Go.wp_at_succ
theorem five_len (s : ByteArray) : (fiveB s).length ≤ 5 ∧ (fiveB s).length ≤ min 5 (s.size + 1) := by
  have h := Lib.splitB_length_le blankB 0 (min 5 (s.size + 1) - 1) s
  unfold fiveB
  omega
/-- SplitN's answer lies in a new block. -/
theorem splitN_at (s : ByteArray) (w : World) (B : Nat) (hB : w.heap.size = B) (hs : s.size ≤ 1000) (hM : TabM w) : Calls Tryd.prog 107 #[.string s, .string ⟨#[32]⟩, .int .i64 5] w fun e w' => e = .returned (.slice (some ⟨B, 0, none⟩) (fiveB s).length (min 5 (s.size + 1))) ∧ (∀ j v, ((fiveB s).map Value.string)[j]? = some v → w'.cell? ⟨B, j, none⟩ = some v) ∧ Below w.heap.size w w' := by
  subst hB
  refine (splitN_any s w hs hM).mono fun e w' ⟨he, hw⟩ => ⟨he, fun j v hv => ?_, ?_⟩
  · subst hw
    rw [(HasR.new w 9 _).cell j]
    unfold Lib.cellsOf
    have hj := (List.getElem?_eq_some_iff.1 hv).1
    rw [List.getElem?_toArray, List.getElem?_append_left hj]
    exact hv
  · subst hw
    exact (Below.refl _ w).alloc (Nat.le_refl _) _
theorem below_of_drew {w w' : World} (h : Below w.drew.heap.size w.drew w') : Below w.heap.size w w' := ⟨h.os, h.tape, h.output, h.size, h.block⟩
def zero5 : List Value := [.string ⟨#[]⟩, .string ⟨#[]⟩, .string ⟨#[]⟩, .string ⟨#[]⟩, .string ⟨#[]⟩]
/-- What copy leaves of five noughts. -/
theorem splice_five (ws : List ByteArray) (h : ws.length ≤ 5) : (splice zero5 0 (ws.map Value.string)).toArray = #[.string (at_ ws 0), .string (at_ ws 1), .string (at_ ws 2), .string (at_ ws 3), .string (at_ ws 4)] := by
  match ws, h with
  | [], _ => rfl
  | [_], _ => rfl
  | [_, _], _ => rfl
  | [_, _, _], _ => rfl
  | [_, _, _, _], _ => rfl
  | [_, _, _, _, _], _ => rfl
set_option maxRecDepth 100000 in
set_option maxHeartbeats 1000000 in
theorem split_ev (s : ByteArray) (w : World) (hs : s.size ≤ 1000) (hL : TabL w) (hM : TabM w) : Calls Tryd.prog 85 #[.string s] w fun e w' => e = .returned (.agg #[.int .i64 (splitEv s).k, .string (splitEv s).s, .string (splitEv s).t, .string (splitEv s).r, .string (splitEv s).v]) ∧ Below w.heap.size w w' := by
  have hlM := hM.lt
  have hlL := hL.lt
  have S := hide (fun wx (hMx : TabM wx) (hB : wx.heap.size = w.heap.size + 1 + 1) => splitN_at s wx (w.heap.size + 1 + 1) hB hs hMx)
  have F := hide (five_len s)
  unfold splitEv
  generalize fiveB s = ws at S F ⊢
  obtain ⟨cs, hcs⟩ : ∃ cs, cs = ws.map Value.string := ⟨_, rfl⟩
  have hlen : cs.length = ws.length := by rw [hcs, List.length_map]
  have hone : ∀ v ∈ cs, v.oneCell' = true := by
    rw [hcs]; intro v hv
    obtain ⟨x, _, rfl⟩ := List.mem_map.1 hv
    rfl
  have hrow := splice_five ws F.out.1
  rw [← hcs] at S hrow
  have HL := hide hlen
  have HONE := hide hone
  have HROW := hide hrow
  have K := hide (fun (wx : World) (hLx : TabL wx) => kindOf_any (at_ ws 0) wx hLx)
  unfold evOf
  simp only
  generalize kindB (at_ ws 0).data.toList = kk at K ⊢
  generalize at_ ws 0 = p0 at K HROW
  generalize at_ ws 1 = p1 at HROW ⊢
  generalize at_ ws 2 = p2 at HROW ⊢
  generalize at_ ws 3 = p3 at HROW ⊢
  generalize at_ ws 4 = p4 at HROW ⊢
  clear hlen hone hrow hcs
  have hrow0 : HasR ((w.alloc (.cells #[.int .i64 0, .string ⟨#[]⟩, .string ⟨#[]⟩, .string ⟨#[]⟩, .string ⟨#[]⟩] 70)).alloc (.cells #[.string ⟨#[]⟩, .string ⟨#[]⟩, .string ⟨#[]⟩, .string ⟨#[]⟩, .string ⟨#[]⟩] 126)).drew w.heap.size 70 #[.int .i64 0, .string ⟨#[]⟩, .string ⟨#[]⟩, .string ⟨#[]⟩, .string ⟨#[]⟩] := ((HasR.new w 70 _).alloc _).drew
  have hrow1 : HasR ((w.alloc (.cells #[.int .i64 0, .string ⟨#[]⟩, .string ⟨#[]⟩, .string ⟨#[]⟩, .string ⟨#[]⟩] 70)).alloc (.cells #[.string ⟨#[]⟩, .string ⟨#[]⟩, .string ⟨#[]⟩, .string ⟨#[]⟩, .string ⟨#[]⟩] 126)).drew (w.heap.size + 1) 126 zero5.toArray := (HasR.new2 w _ 126 _).drew
  have bel : Below w.heap.size w ((w.alloc (.cells #[.int .i64 0, .string ⟨#[]⟩, .string ⟨#[]⟩, .string ⟨#[]⟩, .string ⟨#[]⟩] 70)).alloc (.cells #[.string ⟨#[]⟩, .string ⟨#[]⟩, .string ⟨#[]⟩, .string ⟨#[]⟩, .string ⟨#[]⟩] 126)).drew := (((Below.refl _ w).alloc (Nat.le_refl _) _).alloc (by simp) _).drew
  have hMd := hM.below bel hlM
  have hLd := hL.below bel hlL
  have hsz : ((w.alloc (.cells #[.int .i64 0, .string ⟨#[]⟩, .string ⟨#[]⟩, .string ⟨#[]⟩, .string ⟨#[]⟩] 70)).alloc (.cells #[.string ⟨#[]⟩, .string ⟨#[]⟩, .string ⟨#[]⟩, .string ⟨#[]⟩, .string ⟨#[]⟩] 126)).drew.heap.size = w.heap.size + 1 + 1 := by simp
  have HX := hide (And.intro hrow0 (And.intro hrow1 (And.intro bel (And.intro hMd (And.intro hLd hsz)))))
  clear hrow0 hrow1 bel hMd hLd hsz
  go_enter Tryd.func85, Tryd.ntmps85
  go_wp2
  go_region_held3 (fun _ => True) (trivial) (first
    | (go_at_call 107; (with_reducible refine (S.out _ HX.out.2.2.2.1 HX.out.2.2.2.2.2).mono ?_); rintro e w1 ⟨rfl, hc1, hb1⟩; have HC := hide hc1; clear hc1; have hr0 := HX.out.1.below hb1 (by rw [HX.out.2.2.2.2.2]; omega); have hr1 := HX.out.2.1.below hb1 (by rw [HX.out.2.2.2.2.2]; omega); have bel1 := HX.out.2.2.1.trans (hb1.mono (by rw [HX.out.2.2.2.2.2]; omega)); have hL1 := HX.out.2.2.2.2.1.below hb1 (by rw [HX.out.2.2.2.2.2]; omega))
    | (refine step_copy_splice rfl (.tmp 4) (.tmp 6) 22 22 rfl 9 Tryd.underlying22 (by kernel_rfl) (some ⟨w.heap.size + 1, 0, none⟩) (some ⟨w.heap.size + 1 + 1, 0, none⟩) 5 5 _ _ rfl rfl (w.heap.size + 1) 0 zero5 126 hr1 cs (HL.out.trans (Nat.min_eq_left F.out.1).symm) (fun _ => ⟨rfl, _, rfl, fun j v hv => (by rw [Addr.add_lit, Nat.zero_add]; exact HC.out j v hv)⟩) (by rw [Nat.zero_add, HL.out]; exact F.out.1) HONE.out (w.heap.size + 1) w1 (Below.refl _ _) (Nat.le_refl _) ?_; intro w2 hg2 hb2))
  have hq : HasR w2 (w.heap.size + 1) 126 #[.string p0, .string p1, .string p2, .string p3, .string p4] := by
    rw [← HROW.out]; exact hg2.out
  have hz : HasR w2 w.heap.size 70 #[.int .i64 0, .string ⟨#[]⟩, .string ⟨#[]⟩, .string ⟨#[]⟩, .string ⟨#[]⟩] := hr0.below hb2 (by omega)
  have bel2 : Below w.heap.size w w2 := bel1.trans (hb2.mono (by omega))
  have hL2 : TabL w2.drew := (hL1.below hb2 (by omega)).below (Below.refl w2.heap.size w2).drew (hL1.below hb2 (by omega)).lt
  have l2 : w.heap.size + 1 < w2.heap.size := hq.lt
  have HQ := hide hq
  have HZ := hide hz
  have HB := hide bel2
  have x0 : w2.cell? ⟨w.heap.size + 1, 0, none⟩ = some (.string p0) := hq.cell 0
  have x1 : w2.cell? ⟨w.heap.size + 1, 1, none⟩ = some (.string p1) := hq.cell 1
  have x2 : w2.cell? ⟨w.heap.size + 1, 2, none⟩ = some (.string p2) := hq.cell 2
  have x3 : w2.cell? ⟨w.heap.size + 1, 3, none⟩ = some (.string p3) := hq.cell 3
  have x4 : w2.cell? ⟨w.heap.size + 1, 4, none⟩ = some (.string p4) := hq.cell 4
  clear hq hz bel2 hg2 hb2 hr0 hr1 hL1 bel1 hb1 HC HX HROW HL HONE S F hM hL
  go_wp2
  go_region_held3 (fun wx => wx.cell? ⟨w.heap.size + 1, 0, none⟩ = some (.string p0) ∧ wx.cell? ⟨w.heap.size + 1, 1, none⟩ = some (.string p1) ∧ wx.cell? ⟨w.heap.size + 1, 2, none⟩ = some (.string p2) ∧ wx.cell? ⟨w.heap.size + 1, 3, none⟩ = some (.string p3) ∧ wx.cell? ⟨w.heap.size + 1, 4, none⟩ = some (.string p4)) (first | (with_reducible exact ⟨y0, y1, y2, y3, y4⟩) | go_keep)
    (first
    | (go_at_call 108; (with_reducible refine (K.out _ hL2).mono ?_); rintro e w3 ⟨rfl, hb3⟩; have hb4 := below_of_drew hb3; have hq3 := HQ.out.below hb4 l2; have hz3 := HZ.out.below hb4 (Nat.lt_of_le_of_lt (Nat.le_succ _) l2); have HZ3 := hide hz3; have hbw3 := hide (HB.out.trans (hb4.mono HB.out.size)); have y0 : w3.cell? ⟨w.heap.size + 1, 0, none⟩ = some (.string p0) := hq3.cell 0; have y1 : w3.cell? ⟨w.heap.size + 1, 1, none⟩ = some (.string p1) := hq3.cell 1; have y2 : w3.cell? ⟨w.heap.size + 1, 2, none⟩ = some (.string p2) := hq3.cell 2; have y3 : w3.cell? ⟨w.heap.size + 1, 3, none⟩ = some (.string p3) := hq3.cell 3; have y4 : w3.cell? ⟨w.heap.size + 1, 4, none⟩ = some (.string p4) := hq3.cell 4; have z0 : w3.cell? ⟨w.heap.size, 0, none⟩ = some (.int .i64 0) := hz3.cell 0; have z1 : w3.cell? ⟨w.heap.size, 1, none⟩ = some (.string ⟨#[]⟩) := hz3.cell 1; have z2 : w3.cell? ⟨w.heap.size, 2, none⟩ = some (.string ⟨#[]⟩) := hz3.cell 2; have z3 : w3.cell? ⟨w.heap.size, 3, none⟩ = some (.string ⟨#[]⟩) := hz3.cell 3; have z4 : w3.cell? ⟨w.heap.size, 4, none⟩ = some (.string ⟨#[]⟩) := hz3.cell 4; have f0 := hz3.free 0; have f1 := hz3.free 1; have f2 := hz3.free 2; have f3 := hz3.free 3; have f4 := hz3.free 4; clear hq3 hz3))
  go_wp2
  exact bodyPost_ret (v := .agg #[.int .i64 kk, .string p1, .string p2, .string p3, .string p4]) (results_cell_row Tryd.results85 _ _ w.heap.size 70 #[.int .i64 kk, .string p1, .string p2, .string p3, .string p4] (0, 0) _ rfl (HasR.whole HZ3.out [.int .i64 kk, .string p1, .string p2, .string p3, .string p4] rfl) Tryd.underlying70 rfl (by kernel_rfl)) rfl ⟨rfl, below_setCells [.int .i64 kk, .string p1, .string p2, .string p3, .string p4] 0 _ _ _ _ hbw3.out (Nat.le_refl _)⟩
end Go.Proofs.YtmpfdhnjhpbjgaaDoor
