/- Texts of this proof, one behind the other. -/
import Derived.Laws.CopyOwn
import Derived.Deep.RegionHeld3
import Derived.Test.YtkbaalenbpgheaaGreatDoorPart24
/- Which kind a word is: the program's own kindOf. -/
namespace Go.Proofs.YtkbaalenbpgheaaGreatDoor
open Go.RowKit
attribute [local go_sem ↓] Go.wp_at_zero Go.wp_at_succ
def word0 : ByteArray := ⟨#[]⟩
def word1 : ByteArray := ⟨#[112, 117, 116]⟩
def word2 : ByteArray := ⟨#[100, 101, 108]⟩
def word3 : ByteArray := ⟨#[103, 111, 110, 101]⟩
theorem lay_index0 (w : World) : (Instr.index 169 (.agg layRow) (.int .i64 0)).run Tryz.prog w = .ok (.agg #[.string word0, .int .i64 0]) w := by kernel_rfl
theorem lay_index1 (w : World) : (Instr.index 169 (.agg layRow) (.int .i64 1)).run Tryz.prog w = .ok (.agg #[.string word1, .int .i64 5]) w := by kernel_rfl
theorem lay_index2 (w : World) : (Instr.index 169 (.agg layRow) (.int .i64 2)).run Tryz.prog w = .ok (.agg #[.string word2, .int .i64 4]) w := by kernel_rfl
theorem lay_index3 (w : World) : (Instr.index 169 (.agg layRow) (.int .i64 3)).run Tryz.prog w = .ok (.agg #[.string word3, .int .i64 2]) w := by kernel_rfl
/-- Which of four is the first. -/
def firstOf (b0 b1 b2 b3 : Bool) : Int := if b0 then 0 else if b1 then 1 else if b2 then 2 else if b3 then 3 else 0
theorem eq_words (a : ByteArray) (s : ByteArray) : (a.toList == s.toList) = decide (s.data.toList = a.data.toList) := by
  rw [Lib.toList_data, Lib.toList_data]
  by_cases h : s.data.toList = a.data.toList
  · rw [h]; simp
  · rw [decide_eq_false h, beq_eq_false_iff_ne]; exact fun e => h e.symm
theorem kind_first (s : ByteArray) : kindB s.data.toList = firstOf (word0.toList == s.toList) (word1.toList == s.toList) (word2.toList == s.toList) (word3.toList == s.toList) := by
  rw [eq_words, eq_words, eq_words, eq_words]
  unfold kindB firstOf
  have e0 : word0.data.toList = [] := rfl
  have e1 : word1.data.toList = wPut := rfl
  have e2 : word2.data.toList = wDel := rfl
  have e3 : word3.data.toList = wGone := rfl
  rw [e0, e1, e2, e3]
  by_cases h0 : s.data.toList = []
  · rw [h0]; decide
  · simp only [h0, decide_false, Bool.false_eq_true, if_false, decide_eq_true_eq]
set_option maxRecDepth 100000 in
set_option maxHeartbeats 1000000 in
theorem kindOf_any (s : ByteArray) (w : World) (hL : TabL w) : Calls Tryz.prog 125 #[.string s] w fun e w' => e = .returned (.int .i64 (kindB s.data.toList)) ∧ Below w.heap.size w w' := by
  rw [kind_first]
  obtain ⟨b0, c0⟩ : ∃ b, (word0.toList == s.toList) = b := ⟨_, rfl⟩
  obtain ⟨b1, c1⟩ : ∃ b, (word1.toList == s.toList) = b := ⟨_, rfl⟩
  obtain ⟨b2, c2⟩ : ∃ b, (word2.toList == s.toList) = b := ⟨_, rfl⟩
  obtain ⟨b3, c3⟩ : ∃ b, (word3.toList == s.toList) = b := ⟨_, rfl⟩
  rw [c0, c1, c2, c3]
  have i0 := lay_index0
  have i1 := lay_index1
  have i2 := lay_index2
  have i3 := lay_index3
  have hg : w.heap[1]? = some (.cells layRow 169 (0, 0)) := hL
  have hI : (Tryz.prog.info? 169).map (·.size) = some layRow.size := by kernel_rfl
  generalize layRow = L at hg hI i0 i1 i2 i3
  generalize word0 = d0 at c0 i0
  generalize word1 = d1 at c1 i1
  generalize word2 = d2 at c2 i2
  generalize word3 = d3 at c3 i3
  clear hL
  go_enter Tryz.func125, Tryz.ntmps125
  go_wp2_with (refine wpList_load_row rfl 169 _ rfl 1 rfl 169 L (0, 0) _ hg Tryz.underlying169 rfl hI ?_)
  clear hg hI
  go_loopw [6] (fun i wr => ∃ k : Nat, k ≤ 4 ∧ i = .int .i64 k ∧ Below w.heap.size w wr ∧ Hid ((0 < k → b0 = false) ∧ (1 < k → b1 = false) ∧ (2 < k → b2 = false) ∧ (3 < k → b3 = false))) (fun i _ => 4 - (intOf i).toNat)
  case atStart => exact ⟨0, by omega, rfl, Below.refl _ _, hide ⟨fun h => absurd h (by omega), fun h => absurd h (by omega), fun h => absurd h (by omega), fun h => absurd h (by omega)⟩⟩
  case round =>
    obtain ⟨k, hk, rfl, hb, hh⟩ := hrel
    match k, hk with
    | 0, _ =>
      have hlt : (0 : Int) < 4 := by decide
      cases b0
      · go_wp2
        go_roundw
        case rel => exact ⟨1, by omega, by go_num, hb.alloc hb.size _, hide ⟨by simp, by simp, by simp, by simp⟩⟩
        case measure => simp [intOf]
      · go_wp2
        go_ret
        exact ⟨rfl, hb.alloc hb.size _⟩
    | 1, _ =>
      obtain rfl := hh.out.1 (by omega)
      have hlt : (1 : Int) < 4 := by decide
      cases b1
      · go_wp2
        go_roundw
        case rel => exact ⟨2, by omega, by go_num, hb.alloc hb.size _, hide ⟨by simp, by simp, by simp, by simp⟩⟩
        case measure => simp [intOf]
      · go_wp2
        go_ret
        exact ⟨rfl, hb.alloc hb.size _⟩
    | 2, _ =>
      obtain rfl := hh.out.1 (by omega)
      obtain rfl := hh.out.2.1 (by omega)
      have hlt : (2 : Int) < 4 := by decide
      cases b2
      · go_wp2
        go_roundw
        case rel => exact ⟨3, by omega, by go_num, hb.alloc hb.size _, hide ⟨by simp, by simp, by simp, by simp⟩⟩
        case measure => simp [intOf]
      · go_wp2
        go_ret
        exact ⟨rfl, hb.alloc hb.size _⟩
    | 3, _ =>
      obtain rfl := hh.out.1 (by omega)
      obtain rfl := hh.out.2.1 (by omega)
      obtain rfl := hh.out.2.2.1 (by omega)
      have hlt : (3 : Int) < 4 := by decide
      cases b3
      · go_wp2
        go_roundw
        case rel => exact ⟨4, by omega, by go_num, hb.alloc hb.size _, hide ⟨by simp, by simp, by simp, by simp⟩⟩
        case measure => simp [intOf]
      · go_wp2
        go_ret
        exact ⟨rfl, hb.alloc hb.size _⟩
    | 4, _ =>
      obtain rfl := hh.out.1 (by omega)
      obtain rfl := hh.out.2.1 (by omega)
      obtain rfl := hh.out.2.2.1 (by omega)
      obtain rfl := hh.out.2.2.2 (by omega)
      have hlt : ¬ (4 : Int) < 4 := by decide
      go_wp2
      go_ret
      exact ⟨rfl, hb⟩
    | k + 5, hk => omega
end Go.Proofs.YtkbaalenbpgheaaGreatDoor

/- A text's words, taken for an event's parts: the program's own split. -/
namespace Go.Proofs.YtkbaalenbpgheaaGreatDoor
open Go.RowKit
attribute [local go_sem ↓] Go.wp_at_zero Go.wp_at_succ
theorem five_len (s : ByteArray) : (fiveB s).length ≤ 5 ∧ (fiveB s).length ≤ min 5 (s.size + 1) := by
  have h := Lib.splitB_length_le blankB 0 (min 5 (s.size + 1) - 1) s
  unfold fiveB
  omega
/-- SplitN's answer lies in a new block. -/
theorem splitN_at (s : ByteArray) (w : World) (B : Nat) (hB : w.heap.size = B) (hs : s.size ≤ 1000) (hM : TabM w) : Calls Tryz.prog 124 #[.string s, .string ⟨#[32]⟩, .int .i64 5] w fun e w' => e = .returned (.slice (some ⟨B, 0, none⟩) (fiveB s).length (min 5 (s.size + 1))) ∧ (∀ j v, ((fiveB s).map Value.string)[j]? = some v → w'.cell? ⟨B, j, none⟩ = some v) ∧ Below w.heap.size w w' := by
  subst hB
  refine (splitN_any s w hs hM).mono fun e w' ⟨he, hw⟩ => ⟨he, fun j v hv => ?_, ?_⟩
  · subst hw
    rw [(HasR.new w 9 _).cell j]
    unfold Lib.cellsOf
    have hj := (List.getElem?_eq_some_iff.1 hv).1
    rw [List.getElem?_toArray, List.getElem?_append_left hj]
    exact hv
  · subst hw
    exact (Below.refl _ w).alloc (Nat.le_refl _) _
theorem below_of_drew {w w' : World} (h : Below w.drew.heap.size w.drew w') : Below w.heap.size w w' := ⟨h.os, h.tape, h.output, h.size, h.block⟩
def zero5 : List Value := [.string ⟨#[]⟩, .string ⟨#[]⟩, .string ⟨#[]⟩, .string ⟨#[]⟩, .string ⟨#[]⟩]
/-- What copy leaves of five noughts. -/
theorem splice_five (ws : List ByteArray) (h : ws.length ≤ 5) : (splice zero5 0 (ws.map Value.string)).toArray = #[.string (at_ ws 0), .string (at_ ws 1), .string (at_ ws 2), .string (at_ ws 3), .string (at_ ws 4)] := by
  match ws, h with
  | [], _ => rfl
  | [_], _ => rfl
  | [_, _], _ => rfl
  | [_, _, _], _ => rfl
  | [_, _, _, _], _ => rfl
  | [_, _, _, _, _], _ => rfl
set_option maxRecDepth 100000 in
set_option maxHeartbeats 1000000 in
theorem split_ev (s : ByteArray) (w : World) (hs : s.size ≤ 1000) (hL : TabL w) (hM : TabM w) : Calls Tryz.prog 85 #[.string s] w fun e w' => e = .returned (.agg #[.int .i64 (splitEv s).k, .string (splitEv s).s, .string (splitEv s).t, .string (splitEv s).r, .string (splitEv s).v]) ∧ Below w.heap.size w w' := by
  have hlM := hM.lt
  have hlL := hL.lt
  have S := hide (fun wx (hMx : TabM wx) (hB : wx.heap.size = w.heap.size + 1 + 1) => splitN_at s wx (w.heap.size + 1 + 1) hB hs hMx)
  have F := hide (five_len s)
  unfold splitEv
  generalize fiveB s = ws at S F ⊢
  obtain ⟨cs, hcs⟩ : ∃ cs, cs = ws.map Value.string := ⟨_, rfl⟩
  have hlen : cs.length = ws.length := by rw [hcs, List.length_map]
  have hone : ∀ v ∈ cs, v.oneCell' = true := by
    rw [hcs]; intro v hv
    obtain ⟨x, _, rfl⟩ := List.mem_map.1 hv
    rfl
  have hrow := splice_five ws F.out.1
  rw [← hcs] at S hrow
  have HL := hide hlen
  have HONE := hide hone
  have HROW := hide hrow
  have K := hide (fun (wx : World) (hLx : TabL wx) => kindOf_any (at_ ws 0) wx hLx)
  unfold evOf
  simp only
  generalize kindB (at_ ws 0).data.toList = kk at K ⊢
  generalize at_ ws 0 = p0 at K HROW
  generalize at_ ws 1 = p1 at HROW ⊢
  generalize at_ ws 2 = p2 at HROW ⊢
  generalize at_ ws 3 = p3 at HROW ⊢
  generalize at_ ws 4 = p4 at HROW ⊢
  clear hlen hone hrow hcs
  have hrow0 : HasR ((w.alloc (.cells #[.int .i64 0, .string ⟨#[]⟩, .string ⟨#[]⟩, .string ⟨#[]⟩, .string ⟨#[]⟩] 36)).alloc (.cells #[.string ⟨#[]⟩, .string ⟨#[]⟩, .string ⟨#[]⟩, .string ⟨#[]⟩, .string ⟨#[]⟩] 170)).drew w.heap.size 36 #[.int .i64 0, .string ⟨#[]⟩, .string ⟨#[]⟩, .string ⟨#[]⟩, .string ⟨#[]⟩] := ((HasR.new w 36 _).alloc _).drew
  have hrow1 : HasR ((w.alloc (.cells #[.int .i64 0, .string ⟨#[]⟩, .string ⟨#[]⟩, .string ⟨#[]⟩, .string ⟨#[]⟩] 36)).alloc (.cells #[.string ⟨#[]⟩, .string ⟨#[]⟩, .string ⟨#[]⟩, .string ⟨#[]⟩, .string ⟨#[]⟩] 170)).drew (w.heap.size + 1) 170 zero5.toArray := (HasR.new2 w _ 170 _).drew
  have bel : Below w.heap.size w ((w.alloc (.cells #[.int .i64 0, .string ⟨#[]⟩, .string ⟨#[]⟩, .string ⟨#[]⟩, .string ⟨#[]⟩] 36)).alloc (.cells #[.string ⟨#[]⟩, .string ⟨#[]⟩, .string ⟨#[]⟩, .string ⟨#[]⟩, .string ⟨#[]⟩] 170)).drew := (((Below.refl _ w).alloc (Nat.le_refl _) _).alloc (by simp) _).drew
  have hMd := hM.below bel hlM
  have hLd := hL.below bel hlL
  have hsz : ((w.alloc (.cells #[.int .i64 0, .string ⟨#[]⟩, .string ⟨#[]⟩, .string ⟨#[]⟩, .string ⟨#[]⟩] 36)).alloc (.cells #[.string ⟨#[]⟩, .string ⟨#[]⟩, .string ⟨#[]⟩, .string ⟨#[]⟩, .string ⟨#[]⟩] 170)).drew.heap.size = w.heap.size + 1 + 1 := by simp
  have HX := hide (And.intro hrow0 (And.intro hrow1 (And.intro bel (And.intro hMd (And.intro hLd hsz)))))
  clear hrow0 hrow1 bel hMd hLd hsz
  go_enter Tryz.func85, Tryz.ntmps85
  go_wp2
  go_region_held3 (fun _ => True) (trivial) (first
    | (go_at_call 124; (with_reducible refine (S.out _ HX.out.2.2.2.1 HX.out.2.2.2.2.2).mono ?_); rintro e w1 ⟨rfl, hc1, hb1⟩; have HC := hide hc1; clear hc1; have hr0 := HX.out.1.below hb1 (by rw [HX.out.2.2.2.2.2]; omega); have hr1 := HX.out.2.1.below hb1 (by rw [HX.out.2.2.2.2.2]; omega); have bel1 := HX.out.2.2.1.trans (hb1.mono (by rw [HX.out.2.2.2.2.2]; omega)); have hL1 := HX.out.2.2.2.2.1.below hb1 (by rw [HX.out.2.2.2.2.2]; omega))
    | (refine step_copy_splice rfl (.tmp 4) (.tmp 6) 50 50 rfl 9 Tryz.underlying50 (by kernel_rfl) (some ⟨w.heap.size + 1, 0, none⟩) (some ⟨w.heap.size + 1 + 1, 0, none⟩) 5 5 _ _ rfl rfl (w.heap.size + 1) 0 zero5 170 hr1 cs (HL.out.trans (Nat.min_eq_left F.out.1).symm) (fun _ => ⟨rfl, _, rfl, fun j v hv => (by rw [Addr.add_lit, Nat.zero_add]; exact HC.out j v hv)⟩) (by rw [Nat.zero_add, HL.out]; exact F.out.1) HONE.out (w.heap.size + 1) w1 (Below.refl _ _) (Nat.le_refl _) ?_; intro w2 hg2 hb2))
  have hq : HasR w2 (w.heap.size + 1) 170 #[.string p0, .string p1, .string p2, .string p3, .string p4] := by
    rw [← HROW.out]; exact hg2.out
  have hz : HasR w2 w.heap.size 36 #[.int .i64 0, .string ⟨#[]⟩, .string ⟨#[]⟩, .string ⟨#[]⟩, .string ⟨#[]⟩] := hr0.below hb2 (by omega)
  have bel2 : Below w.heap.size w w2 := bel1.trans (hb2.mono (by omega))
  have hL2 : TabL w2.drew := (hL1.below hb2 (by omega)).below (Below.refl w2.heap.size w2).drew (hL1.below hb2 (by omega)).lt
  have l2 : w.heap.size + 1 < w2.heap.size := hq.lt
  have HQ := hide hq
  have HZ := hide hz
  have HB := hide bel2
  have x0 : w2.cell? ⟨w.heap.size + 1, 0, none⟩ = some (.string p0) := hq.cell 0
  have x1 : w2.cell? ⟨w.heap.size + 1, 1, none⟩ = some (.string p1) := hq.cell 1
  have x2 : w2.cell? ⟨w.heap.size + 1, 2, none⟩ = some (.string p2) := hq.cell 2
  have x3 : w2.cell? ⟨w.heap.size + 1, 3, none⟩ = some (.string p3) := hq.cell 3
  have x4 : w2.cell? ⟨w.heap.size + 1, 4, none⟩ = some (.string p4) := hq.cell 4
  clear hq hz bel2 hg2 hb2 hr0 hr1 hL1 bel1 hb1 HC HX HROW HL HONE S F hM hL
  go_wp2
  go_region_held3 (fun wx => wx.cell? ⟨w.heap.size + 1, 0, none⟩ = some (.string p0) ∧ wx.cell? ⟨w.heap.size + 1, 1, none⟩ = some (.string p1) ∧ wx.cell? ⟨w.heap.size + 1, 2, none⟩ = some (.string p2) ∧ wx.cell? ⟨w.heap.size + 1, 3, none⟩ = some (.string p3) ∧ wx.cell? ⟨w.heap.size + 1, 4, none⟩ = some (.string p4)) (first | (with_reducible exact ⟨y0, y1, y2, y3, y4⟩) | go_keep)
    (first
    | (go_at_call 125; (with_reducible refine (K.out _ hL2).mono ?_); rintro e w3 ⟨rfl, hb3⟩; have hb4 := below_of_drew hb3; have hq3 := HQ.out.below hb4 l2; have hz3 := HZ.out.below hb4 (Nat.lt_of_le_of_lt (Nat.le_succ _) l2); have HZ3 := hide hz3; have hbw3 := hide (HB.out.trans (hb4.mono HB.out.size)); have y0 : w3.cell? ⟨w.heap.size + 1, 0, none⟩ = some (.string p0) := hq3.cell 0; have y1 : w3.cell? ⟨w.heap.size + 1, 1, none⟩ = some (.string p1) := hq3.cell 1; have y2 : w3.cell? ⟨w.heap.size + 1, 2, none⟩ = some (.string p2) := hq3.cell 2; have y3 : w3.cell? ⟨w.heap.size + 1, 3, none⟩ = some (.string p3) := hq3.cell 3; have y4 : w3.cell? ⟨w.heap.size + 1, 4, none⟩ = some (.string p4) := hq3.cell 4; have z0 : w3.cell? ⟨w.heap.size, 0, none⟩ = some (.int .i64 0) := hz3.cell 0; have z1 : w3.cell? ⟨w.heap.size, 1, none⟩ = some (.string ⟨#[]⟩) := hz3.cell 1; have z2 : w3.cell? ⟨w.heap.size, 2, none⟩ = some (.string ⟨#[]⟩) := hz3.cell 2; have z3 : w3.cell? ⟨w.heap.size, 3, none⟩ = some (.string ⟨#[]⟩) := hz3.cell 3; have z4 : w3.cell? ⟨w.heap.size, 4, none⟩ = some (.string ⟨#[]⟩) := hz3.cell 4; have f0 := hz3.free 0; have f1 := hz3.free 1; have f2 := hz3.free 2; have f3 := hz3.free 3; have f4 := hz3.free 4; clear hq3 hz3))
  go_wp2
  exact bodyPost_ret (v := .agg #[.int .i64 kk, .string p1, .string p2, .string p3, .string p4]) (results_cell_row Tryz.results85 _ _ w.heap.size 36 #[.int .i64 kk, .string p1, .string p2, .string p3, .string p4] (0, 0) _ rfl (HasR.whole HZ3.out [.int .i64 kk, .string p1, .string p2, .string p3, .string p4] rfl) Tryz.underlying36 rfl (by kernel_rfl)) rfl ⟨rfl, below_setCells [.int .i64 kk, .string p1, .string p2, .string p3, .string p4] 0 _ _ _ _ hbw3.out (Nat.le_refl _)⟩
end Go.Proofs.YtkbaalenbpgheaaGreatDoor

/- Which event a text is: the program's own Parse. -/
namespace Go.Proofs.YtkbaalenbpgheaaGreatDoor
open Go.RowKit
attribute [local go_sem ↓] Go.wp_at_zero Go.wp_at_succ
theorem text_ne {a b : ByteArray} (h : ¬ a.data.toList = b.data.toList) : (a.toList == b.toList) = false := by
  rw [Lib.toList_data, Lib.toList_data, beq_eq_false_iff_ne]; exact h
set_option maxRecDepth 100000 in
set_option maxHeartbeats 1000000 in
theorem parse_ok (s : ByteArray) (w : World) (hs : s.size ≤ 1000) (h : accB s (splitEv s) = true) (hL : TabL w) (hM : TabM w) : Calls Tryz.prog 55 #[.string s] w fun e w' => e = .returned (.tuple #[.agg #[.int .i64 (splitEv s).k, .string (splitEv s).s, .string (splitEv s).t, .string (splitEv s).r, .string (splitEv s).v], .nilIface]) ∧ Below w.heap.size w w' := by
  obtain ⟨hr, ht⟩ := acc_of h
  have hlM := hM.lt
  have hlL := hL.lt
  have S := hide (fun wx (hLx : TabL wx) (hMx : TabM wx) => split_ev s wx hs hLx hMx)
  have P := hide (fun wx (hLx : TabL wx) => print_ok (splitEv s).k (splitEv s).s (splitEv s).t (splitEv s).r (splitEv s).v wx hr hLx)
  have e0 : (⟨(splitEv s).k, (splitEv s).s, (splitEv s).t, (splitEv s).r, (splitEv s).v⟩ : Ev) = splitEv s := rfl
  rw [e0, ht] at P
  clear e0 hr ht h
  generalize (splitEv s).k = k at S P ⊢
  generalize (splitEv s).s = a at S P ⊢
  generalize (splitEv s).t = b at S P ⊢
  generalize (splitEv s).r = c at S P ⊢
  generalize (splitEv s).v = d at S P ⊢
  have bel := (Below.refl _ w).alloc (Nat.le_refl _) (.cells #[.int .i64 0, .string ⟨#[]⟩, .string ⟨#[]⟩, .string ⟨#[]⟩, .string ⟨#[]⟩] 36)
  have hz : HasR (w.alloc (.cells #[.int .i64 0, .string ⟨#[]⟩, .string ⟨#[]⟩, .string ⟨#[]⟩, .string ⟨#[]⟩] 36)) w.heap.size 36 #[.int .i64 0, .string ⟨#[]⟩, .string ⟨#[]⟩, .string ⟨#[]⟩, .string ⟨#[]⟩] := HasR.new w 36 _
  have HB := hide bel
  have HZ := hide hz
  have hL0 := hL.below bel hlL
  have hM0 := hM.below bel hlM
  clear bel hz
  go_enter Tryz.func55, Tryz.ntmps55
  go_wp2_with (first
    | (go_at_call 85; (with_reducible refine (S.out _ hL0 hM0).mono ?_); rintro e w1 ⟨rfl, hb1⟩; have hL1 := hL0.below hb1 hL0.lt; have hM1 := hM0.below hb1 hM0.lt; have HZ1 := hide (HZ.out.below hb1 HZ.out.lt); have HB1 := hide (HB.out.trans (hb1.mono HB.out.size)); clear hL0 hM0 HZ HB)
    | (go_at_call 69; (with_reducible refine (P.out _ hL1).mono ?_); rintro e w2 ⟨rfl, hb2⟩; have hL2 := hL1.below hb2 hL1.lt; have hM2 := hM1.below hb2 hM1.lt; have HZ2 := hide (HZ1.out.below hb2 HZ1.out.lt); have HB2 := hide (HB1.out.trans (hb2.mono HB1.out.size)); clear hL1 hM1 HZ1 HB1)
    | (go_at_call 85; (with_reducible refine (S.out _ hL2 hM2).mono ?_); rintro e w3 ⟨rfl, hb3⟩; have hz3 := HZ2.out.below hb3 HZ2.out.lt; have HZ3 := hide hz3; have HB3 := hide (HB2.out.trans (hb3.mono HB2.out.size)); have z0 : w3.cell? ⟨w.heap.size, 0, none⟩ = some (.int .i64 0) := hz3.cell 0; have z1 : w3.cell? ⟨w.heap.size, 1, none⟩ = some (.string ⟨#[]⟩) := hz3.cell 1; have z2 : w3.cell? ⟨w.heap.size, 2, none⟩ = some (.string ⟨#[]⟩) := hz3.cell 2; have z3 : w3.cell? ⟨w.heap.size, 3, none⟩ = some (.string ⟨#[]⟩) := hz3.cell 3; have z4 : w3.cell? ⟨w.heap.size, 4, none⟩ = some (.string ⟨#[]⟩) := hz3.cell 4; have f0 := hz3.free 0; have f1 := hz3.free 1; have f2 := hz3.free 2; have f3 := hz3.free 3; have f4 := hz3.free 4; clear hz3 hL2 hM2 HZ2 HB2))
  have hW := HasR.whole HZ3.out [.int .i64 k, .string a, .string b, .string c, .string d] rfl
  have hBW := below_setCells [.int .i64 k, .string a, .string b, .string c, .string d] 0 _ _ _ _ HB3.out (Nat.le_refl _)
  refine bodyPost_ret (v := .tuple #[.agg #[.int .i64 k, .string a, .string b, .string c, .string d], .nilIface]) ?_ rfl ⟨rfl, hBW⟩
  have q0 := hW.cell 0
  have q1 := hW.cell 1
  have q2 := hW.cell 2
  have q3 := hW.cell 3
  have q4 := hW.cell 4
  simp only [World.setCells] at q0 q1 q2 q3 q4
  simp [results, Tryz.results55, go_sem, q0, q1, q2, q3, q4]
theorem zero_store {w w2 : World} {B : Nat} (h : HasR w2 B 36 #[.int .i64 0, .string ⟨#[]⟩, .string ⟨#[]⟩, .string ⟨#[]⟩, .string ⟨#[]⟩]) (hb : Below B w w2) : Below B w (w2.setCells B 0 [.int .i64 0, .string ⟨#[]⟩, .string ⟨#[]⟩, .string ⟨#[]⟩, .string ⟨#[]⟩]) ∧ HasR (w2.setCells B 0 [.int .i64 0, .string ⟨#[]⟩, .string ⟨#[]⟩, .string ⟨#[]⟩, .string ⟨#[]⟩]) B 36 #[.int .i64 0, .string ⟨#[]⟩, .string ⟨#[]⟩, .string ⟨#[]⟩, .string ⟨#[]⟩] :=
  ⟨below_setCells _ 0 _ _ _ _ hb (Nat.le_refl _), HasR.whole h _ rfl⟩
set_option maxRecDepth 100000 in
set_option maxHeartbeats 1000000 in
theorem parse_bad (s : ByteArray) (w : World) (hs : s.size ≤ 1000) (h : accB s (splitEv s) = false) (hL : TabL w) (hM : TabM w) : Calls Tryz.prog 55 #[.string s] w fun e w' => e = .returned (.tuple #[.agg #[.int .i64 0, .string ⟨#[]⟩, .string ⟨#[]⟩, .string ⟨#[]⟩, .string ⟨#[]⟩], .iface 56 (.int .i64 3)]) ∧ Below w.heap.size w w' := by
  have hlM := hM.lt
  have hlL := hL.lt
  have S := hide (fun wx (hLx : TabL wx) (hMx : TabM wx) => split_ev s wx hs hLx hMx)
  have e0 : (⟨(splitEv s).k, (splitEv s).s, (splitEv s).t, (splitEv s).r, (splitEv s).v⟩ : Ev) = splitEv s := rfl
  have bel := (Below.refl _ w).alloc (Nat.le_refl _) (.cells #[.int .i64 0, .string ⟨#[]⟩, .string ⟨#[]⟩, .string ⟨#[]⟩, .string ⟨#[]⟩] 36)
  have hz : HasR (w.alloc (.cells #[.int .i64 0, .string ⟨#[]⟩, .string ⟨#[]⟩, .string ⟨#[]⟩, .string ⟨#[]⟩] 36)) w.heap.size 36 #[.int .i64 0, .string ⟨#[]⟩, .string ⟨#[]⟩, .string ⟨#[]⟩, .string ⟨#[]⟩] := HasR.new w 36 _
  have HB := hide bel
  have HZ := hide hz
  have hL0 := hL.below bel hlL
  have hM0 := hM.below bel hlM
  clear bel hz
  cases hr : rightB (splitEv s)
  · have P := hide (fun wx => print_bad (splitEv s).k (splitEv s).s (splitEv s).t (splitEv s).r (splitEv s).v wx hr)
    clear e0 hr h
    generalize (splitEv s).k = k at S P
    generalize (splitEv s).s = a at S P
    generalize (splitEv s).t = b at S P
    generalize (splitEv s).r = c at S P
    generalize (splitEv s).v = d at S P
    go_enter Tryz.func55, Tryz.ntmps55
    go_wp2_with (first
      | (go_at_call 85; (with_reducible refine (S.out _ hL0 hM0).mono ?_); rintro e w1 ⟨rfl, hb1⟩; have HZ1 := hide (HZ.out.below hb1 HZ.out.lt); have HB1 := hide (HB.out.trans (hb1.mono HB.out.size)); clear hL0 hM0 HZ HB)
      | (go_at_call 69; (with_reducible refine (P.out _).mono ?_); rintro e w3 ⟨rfl, hb3⟩; have hz3 := HZ1.out.below hb3 HZ1.out.lt; have HZ3 := hide hz3; have HB3 := hide (HB1.out.trans (hb3.mono HB1.out.size)); have z0 : w3.cell? ⟨w.heap.size, 0, none⟩ = some (.int .i64 0) := hz3.cell 0; have z1 : w3.cell? ⟨w.heap.size, 1, none⟩ = some (.string ⟨#[]⟩) := hz3.cell 1; have z2 : w3.cell? ⟨w.heap.size, 2, none⟩ = some (.string ⟨#[]⟩) := hz3.cell 2; have z3 : w3.cell? ⟨w.heap.size, 3, none⟩ = some (.string ⟨#[]⟩) := hz3.cell 3; have z4 : w3.cell? ⟨w.heap.size, 4, none⟩ = some (.string ⟨#[]⟩) := hz3.cell 4; have f0 := hz3.free 0; have f1 := hz3.free 1; have f2 := hz3.free 2; have f3 := hz3.free 3; have f4 := hz3.free 4; clear hz3 HZ1 HB1))
    obtain ⟨hBW, hW⟩ := zero_store HZ3.out HB3.out
    refine bodyPost_ret (v := .tuple #[.agg #[.int .i64 0, .string ⟨#[]⟩, .string ⟨#[]⟩, .string ⟨#[]⟩, .string ⟨#[]⟩], .iface 56 (.int .i64 3)]) ?_ rfl ⟨rfl, hBW⟩
    have q0 := hW.cell 0
    have q1 := hW.cell 1
    have q2 := hW.cell 2
    have q3 := hW.cell 3
    have q4 := hW.cell 4
    simp only [World.setCells] at q0 q1 q2 q3 q4
    simp [results, Tryz.results55, go_sem, q0, q1, q2, q3, q4]
  · have P := hide (fun wx (hLx : TabL wx) => print_ok (splitEv s).k (splitEv s).s (splitEv s).t (splitEv s).r (splitEv s).v wx hr hLx)
    rw [e0] at P
    have hne : ((textB (splitEv s)).toList == s.toList) = false := by
      refine text_ne fun e => ?_
      unfold accB at h
      rw [hr, Bool.true_and, ← e] at h
      exact absurd rfl (of_decide_eq_false h)
    clear e0 hr h
    generalize textB (splitEv s) = T at P hne
    generalize (splitEv s).k = k at S P
    generalize (splitEv s).s = a at S P
    generalize (splitEv s).t = b at S P
    generalize (splitEv s).r = c at S P
    generalize (splitEv s).v = d at S P
    go_enter Tryz.func55, Tryz.ntmps55
    go_wp2_with (first
      | (go_at_call 85; (with_reducible refine (S.out _ hL0 hM0).mono ?_); rintro e w1 ⟨rfl, hb1⟩; have hL1 := hL0.below hb1 hL0.lt; have HZ1 := hide (HZ.out.below hb1 HZ.out.lt); have HB1 := hide (HB.out.trans (hb1.mono HB.out.size)); clear hL0 hM0 HZ HB)
      | (go_at_call 69; (with_reducible refine (P.out _ hL1).mono ?_); rintro e w3 ⟨rfl, hb3⟩; have hz3 := HZ1.out.below hb3 HZ1.out.lt; have HZ3 := hide hz3; have HB3 := hide (HB1.out.trans (hb3.mono HB1.out.size)); have z0 : w3.cell? ⟨w.heap.size, 0, none⟩ = some (.int .i64 0) := hz3.cell 0; have z1 : w3.cell? ⟨w.heap.size, 1, none⟩ = some (.string ⟨#[]⟩) := hz3.cell 1; have z2 : w3.cell? ⟨w.heap.size, 2, none⟩ = some (.string ⟨#[]⟩) := hz3.cell 2; have z3 : w3.cell? ⟨w.heap.size, 3, none⟩ = some (.string ⟨#[]⟩) := hz3.cell 3; have z4 : w3.cell? ⟨w.heap.size, 4, none⟩ = some (.string ⟨#[]⟩) := hz3.cell 4; have f0 := hz3.free 0; have f1 := hz3.free 1; have f2 := hz3.free 2; have f3 := hz3.free 3; have f4 := hz3.free 4; clear hz3 HZ1 HB1 hL1))
    obtain ⟨hBW, hW⟩ := zero_store HZ3.out HB3.out
    refine bodyPost_ret (v := .tuple #[.agg #[.int .i64 0, .string ⟨#[]⟩, .string ⟨#[]⟩, .string ⟨#[]⟩, .string ⟨#[]⟩], .iface 56 (.int .i64 3)]) ?_ rfl ⟨rfl, hBW⟩
    have q0 := hW.cell 0
    have q1 := hW.cell 1
    have q2 := hW.cell 2
    have q3 := hW.cell 3
    have q4 := hW.cell 4
    simp only [World.setCells] at q0 q1 q2 q3 q4
    simp [results, Tryz.results55, go_sem, q0, q1, q2, q3, q4]
end Go.Proofs.YtkbaalenbpgheaaGreatDoor
