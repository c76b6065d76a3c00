/- Texts of this proof, one behind the other. -/
import Derived.Laws.CopyOwn
import Derived.Deep.RegionHeld3
import Derived.Test.YtdjpghgnjcmdnaaGreatDoorPart24
/- Which kind a word is: the program's own kindOf. -/
namespace Go.Proofs.YtdjpghgnjcmdnaaGreatDoor
open Go.RowKit
attribute [local go_sem ↓] Go.wp_at_zero Go.wp_at_succ
def word0 : ByteArray := ⟨#[]⟩
def word1 : ByteArray := ⟨#[112, 117, 116]⟩
def word2 : ByteArray := ⟨#[100, 101, 108]⟩
def word3 : ByteArray := ⟨#[103, 111, 110, 101]⟩
theorem lay_index0 (w : World) : (Instr.index 170 (.agg layRow) (.int .i64 0)).run Tryz.prog w = .ok (.agg #[.string word0, .int .i64 0]) w := by kernel_rfl
theorem lay_index1 (w : World) : (Instr.index 170 (.agg layRow) (.int .i64 1)).run Tryz.prog w = .ok (.agg #[.string word1, .int .i64 5]) w := by kernel_rfl
theorem lay_index2 (w : World) : (Instr.index 170 (.agg layRow) (.int .i64 2)).run Tryz.prog w = .ok (.agg #[.string word2, .int .i64 4]) w := by kernel_rfl
theorem lay_index3 (w : World) : (Instr.index 170 (.agg layRow) (.int .i64 3)).run Tryz.prog w = .ok (.agg #[.string word3, .int .i64 2]) w := by kernel_rfl
/-- Which of four is the first. -/
def firstOf (b0 b1 b2 b3 : Bool) : Int := if b0 then 0 else if b1 then 1 else if b2 then 2 else if b3 then 3 else 0
theorem eq_words (a : ByteArray) (s : ByteArray) : (a.toList == s.toList) = decide (s.data.toList = a.data.toList) := by
  rw [Lib.toList_data, Lib.toList_data]
  by_cases h : s.data.toList = a.data.toList
  · rw [h]; simp
  · rw [decide_eq_false h, beq_eq_false_iff_ne]; exact fun e => h e.symm
theorem kind_first (s : ByteArray) : kindB s.data.toList = firstOf (word0.toList == s.toList) (word1.toList == s.toList) (word2.toList == s.toList) (word3.toList == s.toList) := by
  rw [eq_words, eq_words, eq_words, eq_words]
  unfold kindB firstOf
  have e0 : word0.data.toList = [] := rfl
  have e1 : word1.data.toList = wPut := rfl
  have e2 : word2.data.toList = wDel := rfl
  have e3 : word3.data.toList = wGone := rfl
  rw [e0, e1, e2, e3]
  by_cases h0 : s.data.toList = []
  · rw [h0]; decide
  · simp only [h0, decide_false, Bool.false_eq_true, if_false, decide_eq_true_eq]
set_option maxRecDepth 100000 in
set_option maxHeartbeats 1000000 in
theorem kindOf_any (s : ByteArray) (w : World) (hL : TabL w) : Calls Tryz.prog 114 #[.string s] w fun e w' => e = .returned (.int .i64 (kindB s.data.toList)) ∧ Below w.heap.size w w' := by
  rw [kind_first]
  obtain ⟨b0, c0⟩ : ∃ b, (word0.toList == s.toList) = b := ⟨_, rfl⟩
  obtain ⟨b1, c1⟩ : ∃ b, (word1.toList == s.toList) = b := ⟨_, rfl⟩
  obtain ⟨b2, c2⟩ : ∃ b, (word2.toList == s.toList) = b := ⟨_, rfl⟩
  obtain ⟨b3, c3⟩ : ∃ b, (word3.toList == s.toList) = b := ⟨_, rfl⟩
  rw [c0, c1, c2, c3]
  have i0 := lay_index0
  have i1 := lay_index1
  have i2 := lay_index2
  have i3 := lay_index3
  have hg : w.heap[0]? = some (.cells layRow 170 (0, 0)) := hL
  have hI : (Tryz.prog.info? 170).map (·.size) = some layRow.size := by kernel_rfl
  generalize layRow = L at hg hI i0 i1 i2 i3
  generalize word0 = d0 at c0 i0
  generalize word1 = d1 at c1 i1
  generalize word2 = d2 at c2 i2
  generalize word3 = d3 at c3 i3
  clear hL
  go_enter Tryz.func114, Tryz.ntmps114
  go_wp2_with (refine wpList_load_row rfl 170 _ rfl 0 rfl 170 L (0, 0) _ hg Tryz.underlying170 rfl hI ?_)
  clear hg hI
  go_loopw [6] (fun i wr => ∃ k : Nat, k ≤ 4 ∧ i = .int .i64 k ∧ Below w.heap.size w wr ∧ Hid ((0 < k → b0 = false) ∧ (1 < k → b1 = false) ∧ (2 < k → b2 = false) ∧ (3 < k → b3 = false))) (fun i _ => 4 - (intOf i).toNat)
  case atStart => exact ⟨0, by omega, rfl, Below.refl _ _, hide ⟨fun h => absurd h (by omega), fun h => absurd h (by omega), fun h => absurd h (by omega), fun h => absurd h (by omega)⟩⟩
  case round =>
    obtain ⟨k, hk, rfl, hb, hh⟩ := hrel
    match k, hk with
    | 0, _ =>
      have hlt : (0 : Int) < 4 := by decide
      cases b0
      · go_wp2
        go_roundw
        case rel => exact ⟨1, by omega, by go_num, hb.alloc hb.size _, hide ⟨by simp, by simp, by simp, by simp⟩⟩
        case measure => simp [intOf]
      · go_wp2
        go_ret
        exact ⟨rfl, hb.alloc hb.size _⟩
    | 1, _ =>
      obtain rfl := hh.out.1 (by omega)
      have hlt : (1 : Int) < 4 := by decide
      cases b1
      · go_wp2
        go_roundw
        case rel => exact ⟨2, by omega, by go_num, hb.alloc hb.size _, hide ⟨by simp, by simp, by simp, by simp⟩⟩
        case measure => simp [intOf]
      · go_wp2
        go_ret
        exact ⟨rfl, hb.alloc hb.size _⟩
    | 2, _ =>
      obtain rfl := hh.out.1 (by omega)
      obtain rfl := hh.out.2.1 (by omega)
      have hlt : (2 : Int) < 4 := by decide
      cases b2
      · go_wp2
        go_roundw
        case rel => exact ⟨3, by omega, by go_num, hb.alloc hb.size _, hide ⟨by simp, by simp, by simp, by simp⟩⟩
        case measure => simp [intOf]
      · go_wp2
        go_ret
        exact ⟨rfl, hb.alloc hb.size _⟩
    | 3, _ =>
      obtain rfl := hh.out.1 (by omega)
      obtain rfl := hh.out.2.1 (by omega)
      obtain rfl := hh.out.2.2.1 (by omega)
      have hlt : (3 : Int) < 4 := by decide
      cases b3
      · go_wp2
        go_roundw
        case rel => exact ⟨4, by omega, by go_num, hb.alloc hb.size _, hide ⟨by simp, by simp, by simp, by simp⟩⟩
        case measure => simp [intOf]
      · go_wp2
        go_ret
        exact ⟨rfl, hb.alloc hb.size _⟩
    | 4, _ =>
      obtain rfl := hh.out.1 (by omega)
      obtain rfl := hh.out.2.1 (by omega)
      obtain rfl := hh.out.2.2.1 (by omega)
      obtain rfl := hh.out.2.2.2 (by omega)
      have hlt : ¬ (4 : Int) < 4 := by decide
      go_wp2
      go_ret
      exact ⟨rfl, hb⟩
    | k + 5, hk => omega
end Go.Proofs.YtdjpghgnjcmdnaaGreatDoor

/- A text's words, taken for an event's parts: the program's own split. -/
namespace Go.Proofs.YtdjpghgnjcmdnaaGreatDoor
open Go.RowKit
attribute [local go_sem ↓] Go.wp_at_zero Go.wp_at_succ
theorem five_len (s : ByteArray) : (fiveB s).length ≤ 5 ∧ (fiveB s).length ≤ min 5 (s.size + 1) := by
  have h := Lib.splitB_length_le blankB 0 (min 5 (s.size + 1) - 1) s
  unfold fiveB
  omega
/-- SplitN's answer lies in a new block. -/
theorem splitN_at (s : ByteArray) (w : World) (B : Nat) (hB : w.heap.size = B) (hs : s.size ≤ 1000) (hM : TabM w) : Calls Tryz.prog 113 #[.string s, .string ⟨#[32]⟩, .int .i64 5] w fun e w' => e = .returned (.slice (some ⟨B, 0, none⟩) (fiveB s).length (min 5 (s.size + 1))) ∧ (∀ j v, ((fiveB s).map Value.string)[j]? = some v → w'.cell? ⟨B, j, none⟩ = some v) ∧ Below w.heap.size w w' := by
  subst hB
  refine (splitN_any s w hs hM).mono fun e w' ⟨he, hw⟩ => ⟨he, fun j v hv => ?_, ?_⟩
  · subst hw
    rw [(HasR.new w 9 _).cell j]
    unfold Lib.cellsOf
    have hj := (List.getElem?_eq_some_iff.1 hv).1
    rw [List.getElem?_toArray, List.getElem?_append_left hj]
    exact hv
  · subst hw
    exact (Below.refl _ w).alloc (Nat.le_refl _) _
theorem below_of_drew {w w' : World} (h : Below w.drew.heap.size w.drew w') : Below w.heap.size w w' := ⟨h.os, h.tape, h.output, h.size, h.block⟩
def zero5 : List Value := [.string ⟨#[]⟩, .string ⟨#[]⟩, .string ⟨#[]⟩, .string ⟨#[]⟩, .string ⟨#[]⟩]
/-- What copy leaves of five noughts. -/
theorem splice_five (ws : List ByteArray) (h : ws.length ≤ 5) : (splice zero5 0 (ws.map Value.string)).toArray = #[.string (at_ ws 0), .string (at_ ws 1), .string (at_ ws 2), .string (at_ ws 3), .string (at_ ws 4)] := by
  match ws, h with
  | [], _ => rfl
  | [_], _ => rfl
  | [_, _], _ => rfl
  | [_, _, _], _ => rfl
  | [_, _, _, _], _ => rfl
  | [_, _, _, _, _], _ => rfl
set_option maxRecDepth 100000 in
set_option maxHeartbeats 1000000 in
theorem split_ev (s : ByteArray) (w : World) (hs : s.size ≤ 1000) (hL : TabL w) (hM : TabM w) : Calls Tryz.prog 76 #[.string s] w fun e w' => e = .returned (.agg #[.int .i64 (splitEv s).k, .string (splitEv s).s, .string (splitEv s).t, .string (splitEv s).r, .string (splitEv s).v]) ∧ Below w.heap.size w w' := by
  have hlM := hM.lt
  have hlL := hL.lt
  have S := hide (fun wx (hMx : TabM wx) (hB : wx.heap.size = w.heap.size + 1 + 1) => splitN_at s wx (w.heap.size + 1 + 1) hB hs hMx)
  have F := hide (five_len s)
  unfold splitEv
  generalize fiveB s = ws at S F ⊢
  obtain ⟨cs, hcs⟩ : ∃ cs, cs = ws.map Value.string := ⟨_, rfl⟩
  have hlen : cs.length = ws.length := by rw [hcs, List.length_map]
  have hone : ∀ v ∈ cs, v.oneCell' = true := by
    rw [hcs]; intro v hv
    obtain ⟨x, _, rfl⟩ := List.mem_map.1 hv
    rfl
  have hrow := splice_five ws F.out.1
  rw [← hcs] at S hrow
  have HL := hide hlen
  have HONE := hide hone
  have HROW := hide hrow
  have K := hide (fun (wx : World) (hLx : TabL wx) => kindOf_any (at_ ws 0) wx hLx)
  unfold evOf
  simp only
  generalize kindB (at_ ws 0).data.toList = kk at K ⊢
  generalize at_ ws 0 = p0 at K HROW
  generalize at_ ws 1 = p1 at HROW ⊢
  generalize at_ ws 2 = p2 at HROW ⊢
  generalize at_ ws 3 = p3 at HROW ⊢
  generalize at_ ws 4 = p4 at HROW ⊢
  clear hlen hone hrow hcs
  have hrow0 : HasR ((w.alloc (.cells #[.int .i64 0, .string ⟨#[]⟩, .string ⟨#[]⟩, .string ⟨#[]⟩, .string ⟨#[]⟩] 69)).alloc (.cells #[.string ⟨#[]⟩, .string ⟨#[]⟩, .string ⟨#[]⟩, .string ⟨#[]⟩, .string ⟨#[]⟩] 171)).drew w.heap.size 69 #[.int .i64 0, .string ⟨#[]⟩, .string ⟨#[]⟩, .string ⟨#[]⟩, .string ⟨#[]⟩] := ((HasR.new w 69 _).alloc _).drew
  have hrow1 : HasR ((w.alloc (.cells #[.int .i64 0, .string ⟨#[]⟩, .string ⟨#[]⟩, .string ⟨#[]⟩, .string ⟨#[]⟩] 69)).alloc (.cells #[.string ⟨#[]⟩, .string ⟨#[]⟩, .string ⟨#[]⟩, .string ⟨#[]⟩, .string ⟨#[]⟩] 171)).drew (w.heap.size + 1) 171 zero5.toArray := (HasR.new2 w _ 171 _).drew
  have bel : Below w.heap.size w ((w.alloc (.cells #[.int .i64 0, .string ⟨#[]⟩, .string ⟨#[]⟩, .string ⟨#[]⟩, .string ⟨#[]⟩] 69)).alloc (.cells #[.string ⟨#[]⟩, .string ⟨#[]⟩, .string ⟨#[]⟩, .string ⟨#[]⟩, .string ⟨#[]⟩] 171)).drew := (((Below.refl _ w).alloc (Nat.le_refl _) _).alloc (by simp) _).drew
  have hMd := hM.below bel hlM
  have hLd := hL.below bel hlL
  have hsz : ((w.alloc (.cells #[.int .i64 0, .string ⟨#[]⟩, .string ⟨#[]⟩, .string ⟨#[]⟩, .string ⟨#[]⟩] 69)).alloc (.cells #[.string ⟨#[]⟩, .string ⟨#[]⟩, .string ⟨#[]⟩, .string ⟨#[]⟩, .string ⟨#[]⟩] 171)).drew.heap.size = w.heap.size + 1 + 1 := by simp
  have HX := hide (And.intro hrow0 (And.intro hrow1 (And.intro bel (And.intro hMd (And.intro hLd hsz)))))
  clear hrow0 hrow1 bel hMd hLd hsz
  go_enter Tryz.func76, Tryz.ntmps76
  go_wp2
  go_region_held3 (fun _ => True) (trivial) (first
    | (go_at_call 113; (with_reducible refine (S.out _ HX.out.2.2.2.1 HX.out.2.2.2.2.2).mono ?_); rintro e w1 ⟨rfl, hc1, hb1⟩; have HC := hide hc1; clear hc1; have hr0 := HX.out.1.below hb1 (by rw [HX.out.2.2.2.2.2]; omega); have hr1 := HX.out.2.1.below hb1 (by rw [HX.out.2.2.2.2.2]; omega); have bel1 := HX.out.2.2.1.trans (hb1.mono (by rw [HX.out.2.2.2.2.2]; omega)); have hL1 := HX.out.2.2.2.2.1.below hb1 (by rw [HX.out.2.2.2.2.2]; omega))
    | (refine step_copy_splice rfl (.tmp 4) (.tmp 6) 61 61 rfl 9 Tryz.underlying61 (by kernel_rfl) (some ⟨w.heap.size + 1, 0, none⟩) (some ⟨w.heap.size + 1 + 1, 0, none⟩) 5 5 _ _ rfl rfl (w.heap.size + 1) 0 zero5 171 hr1 cs (HL.out.trans (Nat.min_eq_left F.out.1).symm) (fun _ => ⟨rfl, _, rfl, fun j v hv => (by rw [Addr.add_lit, Nat.zero_add]; exact HC.out j v hv)⟩) (by rw [Nat.zero_add, HL.out]; exact F.out.1) HONE.out (w.heap.size + 1) w1 (Below.refl _ _) (Nat.le_refl _) ?_; intro w2 hg2 hb2))
  have hq : HasR w2 (w.heap.size + 1) 171 #[.string p0, .string p1, .string p2, .string p3, .string p4] := by
    rw [← HROW.out]; exact hg2.out
  have hz : HasR w2 w.heap.size 69 #[.int .i64 0, .string ⟨#[]⟩, .string ⟨#[]⟩, .string ⟨#[]⟩, .string ⟨#[]⟩] := hr0.below hb2 (by omega)
  have bel2 : Below w.heap.size w w2 := bel1.trans (hb2.mono (by omega))
  have hL2 : TabL w2.drew := (hL1.below hb2 (by omega)).below (Below.refl w2.heap.size w2).drew (hL1.below hb2 (by omega)).lt
  have l2 : w.heap.size + 1 < w2.heap.size := hq.lt
  have HQ := hide hq
  have HZ := hide hz
  have HB := hide bel2
  have x0 : w2.cell? ⟨w.heap.size + 1, 0, none⟩ = some (.string p0) := hq.cell 0
  have x1 : w2.cell? ⟨w.heap.size + 1, 1, none⟩ = some (.string p1) := hq.cell 1
  have x2 : w2.cell? ⟨w.heap.size + 1, 2, none⟩ = some (.string p2) := hq.cell 2
  have x3 : w2.cell? ⟨w.heap.size + 1, 3, none⟩ = some (.string p3) := hq.cell 3
  have x4 : w2.cell? ⟨w.heap.size + 1, 4, none⟩ = some (.string p4) := hq.cell 4
  clear hq hz bel2 hg2 hb2 hr0 hr1 hL1 bel1 hb1 HC HX HROW HL HONE S F hM hL
  go_wp2
  go_region_held3 (fun wx => wx.cell? ⟨w.heap.size + 1, 0, none⟩ = some (.string p0) ∧ wx.cell? ⟨w.heap.size + 1, 1, none⟩ = some (.string p1) ∧ wx.cell? ⟨w.heap.size + 1, 2, none⟩ = some (.string p2) ∧ wx.cell? ⟨w.heap.size + 1, 3, none⟩ = some (.string p3) ∧ wx.cell? ⟨w.heap.size + 1, 4, none⟩ = some (.string p4)) (first | (with_reducible exact ⟨y0, y1, y2, y3, y4⟩) | go_keep)
    (first
    | (go_at_call 114; (with_reducible refine (K.out _ hL2).mono ?_); rintro e w3 ⟨rfl, hb3⟩; have hb4 := below_of_drew hb3; have hq3 := HQ.out.below hb4 l2; have hz3 := HZ.out.below hb4 (Nat.lt_of_le_of_lt (Nat.le_succ _) l2); have HZ3 := hide hz3; have hbw3 := hide (HB.out.trans (hb4.mono HB.out.size)); have y0 : w3.cell? ⟨w.heap.size + 1, 0, none⟩ = some (.string p0) := hq3.cell 0; have y1 : w3.cell? ⟨w.heap.size + 1, 1, none⟩ = some (.string p1) := hq3.cell 1; have y2 : w3.cell? ⟨w.heap.size + 1, 2, none⟩ = some (.string p2) := hq3.cell 2; have y3 : w3.cell? ⟨w.heap.size + 1, 3, none⟩ = some (.string p3) := hq3.cell 3; have y4 : w3.cell? ⟨w.heap.size + 1, 4, none⟩ = some (.string p4) := hq3.cell 4; have z0 : w3.cell? ⟨w.heap.size, 0, none⟩ = some (.int .i64 0) := hz3.cell 0; have z1 : w3.cell? ⟨w.heap.size, 1, none⟩ = some (.string ⟨#[]⟩) := hz3.cell 1; have z2 : w3.cell? ⟨w.heap.size, 2, none⟩ = some (.string ⟨#[]⟩) := hz3.cell 2; have z3 : w3.cell? ⟨w.heap.size, 3, none⟩ = some (.string ⟨#[]⟩) := hz3.cell 3; have z4 : w3.cell? ⟨w.heap.size, 4, none⟩ = some (.string ⟨#[]⟩) := hz3.cell 4; have f0 := hz3.free 0; have f1 := hz3.free 1; have f2 := hz3.free 2; have f3 := hz3.free 3; have f4 := hz3.free 4; clear hq3 hz3))
  go_wp2
  exact bodyPost_ret (v := .agg #[.int .i64 kk, .string p1, .string p2, .string p3, .string p4]) (results_cell_row Tryz.results76 _ _ w.heap.size 69 #[.int .i64 kk, .string p1, .string p2, .string p3, .string p4] (0, 0) _ rfl (HasR.whole HZ3.out [.int .i64 kk, .string p1, .string p2, .string p3, .string p4] rfl) Tryz.underlying69 rfl (by kernel_rfl)) rfl ⟨rfl, below_setCells [.int .i64 kk, .string p1, .string p2, .string p3, .string p4] 0 _ _ _ _ hbw3.out (Nat.le_refl _)⟩
end Go.Proofs.YtdjpghgnjcmdnaaGreatDoor

/- Which event a text is: the program's own Parse. -/
namespace Go.Proofs.YtdjpghgnjcmdnaaGreatDoor
open Go.RowKit
attribute [local go_sem ↓] Go.wp_at_zero Go.wp_at_succ
theorem text_ne {a b : ByteArray} (h : ¬ a.data.toList = b.data.toList) : (a.toList == b.toList) = false := by
  rw [Lib.toList_data, Lib.toList_data, beq_eq_false_iff_ne]; exact h
set_option maxRecDepth 100000 in
set_option maxHeartbeats 1000000 in
theorem parse_ok (s : ByteArray) (w : World) (hs : s.size ≤ 1000) (h : accB s (splitEv s) = true) (hL : TabL w) (hM : TabM w) : Calls Tryz.prog 41 #[.string s] w fun e w' => e = .returned (.tuple #[.agg #[.int .i64 (splitEv s).k, .string (splitEv s).s, .string (splitEv s).t, .string (splitEv s).r, .string (splitEv s).v], .nilIface]) ∧ Below w.heap.size w w' := by
  obtain ⟨hr, ht⟩ := acc_of h
  have hlM := hM.lt
  have hlL := hL.lt
  have S := hide (fun wx (hLx : TabL wx) (hMx : TabM wx) => split_ev s wx hs hLx hMx)
  have P := hide (fun wx (hLx : TabL wx) => print_ok (splitEv s).k (splitEv s).s (splitEv s).t (splitEv s).r (splitEv s).v wx hr hLx)
  have e0 : (⟨(splitEv s).k, (splitEv s).s, (splitEv s).t, (splitEv s).r, (splitEv s).v⟩ : Ev) = splitEv s := rfl
  rw [e0, ht] at P
  clear e0 hr ht h
  generalize (splitEv s).k = k at S P ⊢
  generalize (splitEv s).s = a at S P ⊢
  generalize (splitEv s).t = b at S P ⊢
  generalize (splitEv s).r = c at S P ⊢
  generalize (splitEv s).v = d at S P ⊢
  have bel := (Below.refl _ w).alloc (Nat.le_refl _) (.cells #[.int .i64 0, .string ⟨#[]⟩, .string ⟨#[]⟩, .string ⟨#[]⟩, .string ⟨#[]⟩] 69)
  have hz : HasR (w.alloc (.cells #[.int .i64 0, .string ⟨#[]⟩, .string ⟨#[]⟩, .string ⟨#[]⟩, .string ⟨#[]⟩] 69)) w.heap.size 69 #[.int .i64 0, .string ⟨#[]⟩, .string ⟨#[]⟩, .string ⟨#[]⟩, .string ⟨#[]⟩] := HasR.new w 69 _
  have HB := hide bel
  have HZ := hide hz
  have hL0 := hL.below bel hlL
  have hM0 := hM.below bel hlM
  clear bel hz
  go_enter Tryz.func41, Tryz.ntmps41
  go_wp2_with (first
    | (go_at_call 76; (with_reducible refine (S.out _ hL0 hM0).mono ?_); rintro e w1 ⟨rfl, hb1⟩; have hL1 := hL0.below hb1 hL0.lt; have hM1 := hM0.below hb1 hM0.lt; have HZ1 := hide (HZ.out.below hb1 HZ.out.lt); have HB1 := hide (HB.out.trans (hb1.mono HB.out.size)); clear hL0 hM0 HZ HB)
    | (go_at_call 75; (with_reducible refine (P.out _ hL1).mono ?_); rintro e w2 ⟨rfl, hb2⟩; have hL2 := hL1.below hb2 hL1.lt; have hM2 := hM1.below hb2 hM1.lt; have HZ2 := hide (HZ1.out.below hb2 HZ1.out.lt); have HB2 := hide (HB1.out.trans (hb2.mono HB1.out.size)); clear hL1 hM1 HZ1 HB1)
    | (go_at_call 76; (with_reducible refine (S.out _ hL2 hM2).mono ?_); rintro e w3 ⟨rfl, hb3⟩; have hz3 := HZ2.out.below hb3 HZ2.out.lt; have HZ3 := hide hz3; have HB3 := hide (HB2.out.trans (hb3.mono HB2.out.size)); have z0 : w3.cell? ⟨w.heap.size, 0, none⟩ = some (.int .i64 0) := hz3.cell 0; have z1 : w3.cell? ⟨w.heap.size, 1, none⟩ = some (.string ⟨#[]⟩) := hz3.cell 1; have z2 : w3.cell? ⟨w.heap.size, 2, none⟩ = some (.string ⟨#[]⟩) := hz3.cell 2; have z3 : w3.cell? ⟨w.heap.size, 3, none⟩ = some (.string ⟨#[]⟩) := hz3.cell 3; have z4 : w3.cell? ⟨w.heap.size, 4, none⟩ = some (.string ⟨#[]⟩) := hz3.cell 4; have f0 := hz3.free 0; have f1 := hz3.free 1; have f2 := hz3.free 2; have f3 := hz3.free 3; have f4 := hz3.free 4; clear hz3 hL2 hM2 HZ2 HB2))
  have hW := HasR.whole HZ3.out [.int .i64 k, .string a, .string b, .string c, .string d] rfl
  have hBW := below_setCells [.int .i64 k, .string a, .string b, .string c, .string d] 0 _ _ _ _ HB3.out (Nat.le_refl _)
  refine bodyPost_ret (v := .tuple #[.agg #[.int .i64 k, .string a, .string b, .string c, .string d], .nilIface]) ?_ rfl ⟨rfl, hBW⟩
  have q0 := hW.cell 0
  have q1 := hW.cell 1
  have q2 := hW.cell 2
  have q3 := hW.cell 3
  have q4 := hW.cell 4
  simp only [World.setCells] at q0 q1 q2 q3 q4
  simp [results, Tryz.results41, go_sem, q0, q1, q2, q3, q4]
theorem zero_store {w w2 : World} {B : Nat} (h : HasR w2 B 69 #[.int .i64 0, .string ⟨#[]⟩, .string ⟨#[]⟩, .string ⟨#[]⟩, .string ⟨#[]⟩]) (hb : Below B w w2) : Below B w (w2.setCells B 0 [.int .i64 0, .string ⟨#[]⟩, .string ⟨#[]⟩, .string ⟨#[]⟩, .string ⟨#[]⟩]) ∧ HasR (w2.setCells B 0 [.int .i64 0, .string ⟨#[]⟩, .string ⟨#[]⟩, .string ⟨#[]⟩, .string ⟨#[]⟩]) B 69 #[.int .i64 0, .string ⟨#[]⟩, .string ⟨#[]⟩, .string ⟨#[]⟩, .string ⟨#[]⟩] :=
  ⟨below_setCells _ 0 _ _ _ _ hb (Nat.le_refl _), HasR.whole h _ rfl⟩
set_option maxRecDepth 100000 in
set_option maxHeartbeats 1000000 in
theorem parse_bad (s : ByteArray) (w : World) (hs : s.size ≤ 1000) (h : accB s (splitEv s) = false) (hL : TabL w) (hM : TabM w) : Calls Tryz.prog 41 #[.string s] w fun e w' => e = .returned (.tuple #[.agg #[.int .i64 0, .string ⟨#[]⟩, .string ⟨#[]⟩, .string ⟨#[]⟩, .string ⟨#[]⟩], .iface 25 (.int .i64 3)]) ∧ Below w.heap.size w w' := by
  have hlM := hM.lt
  have hlL := hL.lt
  have S := hide (fun wx (hLx : TabL wx) (hMx : TabM wx) => split_ev s wx hs hLx hMx)
  have e0 : (⟨(splitEv s).k, (splitEv s).s, (splitEv s).t, (splitEv s).r, (splitEv s).v⟩ : Ev) = splitEv s := rfl
  have bel := (Below.refl _ w).alloc (Nat.le_refl _) (.cells #[.int .i64 0, .string ⟨#[]⟩, .string ⟨#[]⟩, .string ⟨#[]⟩, .string ⟨#[]⟩] 69)
  have hz : HasR (w.alloc (.cells #[.int .i64 0, .string ⟨#[]⟩, .string ⟨#[]⟩, .string ⟨#[]⟩, .string ⟨#[]⟩] 69)) w.heap.size 69 #[.int .i64 0, .string ⟨#[]⟩, .string ⟨#[]⟩, .string ⟨#[]⟩, .string ⟨#[]⟩] := HasR.new w 69 _
  have HB := hide bel
  have HZ := hide hz
  have hL0 := hL.below bel hlL
  have hM0 := hM.below bel hlM
  clear bel hz
  cases hr : rightB (splitEv s)
  · have P := hide (fun wx => print_bad (splitEv s).k (splitEv s).s (splitEv s).t (splitEv s).r (splitEv s).v wx hr)
    clear e0 hr h
    generalize (splitEv s).k = k at S P
    generalize (splitEv s).s = a at S P
    generalize (splitEv s).t = b at S P
    generalize (splitEv s).r = c at S P
    generalize (splitEv s).v = d at S P
    go_enter Tryz.func41, Tryz.ntmps41
    go_wp2_with (first
      | (go_at_call 76; (with_reducible refine (S.out _ hL0 hM0).mono ?_); rintro e w1 ⟨rfl, hb1⟩; have HZ1 := hide (HZ.out.below hb1 HZ.out.lt); have HB1 := hide (HB.out.trans (hb1.mono HB.out.size)); clear hL0 hM0 HZ HB)
      | (go_at_call 75; (with_reducible refine (P.out _).mono ?_); rintro e w3 ⟨rfl, hb3⟩; have hz3 := HZ1.out.below hb3 HZ1.out.lt; have HZ3 := hide hz3; have HB3 := hide (HB1.out.trans (hb3.mono HB1.out.size)); have z0 : w3.cell? ⟨w.heap.size, 0, none⟩ = some (.int .i64 0) := hz3.cell 0; have z1 : w3.cell? ⟨w.heap.size, 1, none⟩ = some (.string ⟨#[]⟩) := hz3.cell 1; have z2 : w3.cell? ⟨w.heap.size, 2, none⟩ = some (.string ⟨#[]⟩) := hz3.cell 2; have z3 : w3.cell? ⟨w.heap.size, 3, none⟩ = some (.string ⟨#[]⟩) := hz3.cell 3; have z4 : w3.cell? ⟨w.heap.size, 4, none⟩ = some (.string ⟨#[]⟩) := hz3.cell 4; have f0 := hz3.free 0; have f1 := hz3.free 1; have f2 := hz3.free 2; have f3 := hz3.free 3; have f4 := hz3.free 4; clear hz3 HZ1 HB1))
    obtain ⟨hBW, hW⟩ := zero_store HZ3.out HB3.out
    refine bodyPost_ret (v := .tuple #[.agg #[.int .i64 0, .string ⟨#[]⟩, .string ⟨#[]⟩, .string ⟨#[]⟩, .string ⟨#[]⟩], .iface 25 (.int .i64 3)]) ?_ rfl ⟨rfl, hBW⟩
    have q0 := hW.cell 0
    have q1 := hW.cell 1
    have q2 := hW.cell 2
    have q3 := hW.cell 3
    have q4 := hW.cell 4
    simp only [World.setCells] at q0 q1 q2 q3 q4
    simp [results, Tryz.results41, go_sem, q0, q1, q2, q3, q4]
  · have P := hide (fun wx (hLx : TabL wx) => print_ok (splitEv s).k (splitEv s).s (splitEv s).t (splitEv s).r (splitEv s).v wx hr hLx)
    rw [e0] at P
    have hne : ((textB (splitEv s)).toList == s.toList) = false := by
      refine text_ne fun e => ?_
      unfold accB at h
      rw [hr, Bool.true_and, ← e] at h
      exact absurd rfl (of_decide_eq_false h)
    clear e0 hr h
    generalize textB (splitEv s) = T at P hne
    generalize (splitEv s).k = k at S P
    generalize (splitEv s).s = a at S P
    generalize (splitEv s).t = b at S P
    generalize (splitEv s).r = c at S P
    generalize (splitEv s).v = d at S P
    go_enter Tryz.func41, Tryz.ntmps41
    go_wp2_with (first
      | (go_at_call 76; (with_reducible refine (S.out _ hL0 hM0).mono ?_); rintro e w1 ⟨rfl, hb1⟩; have hL1 := hL0.below hb1 hL0.lt; have HZ1 := hide (HZ.out.below hb1 HZ.out.lt); have HB1 := hide (HB.out.trans (hb1.mono HB.out.size)); clear hL0 hM0 HZ HB)
      | (go_at_call 75; (with_reducible refine (P.out _ hL1).mono ?_); rintro e w3 ⟨rfl, hb3⟩; have hz3 := HZ1.out.below hb3 HZ1.out.lt; have HZ3 := hide hz3; have HB3 := hide (HB1.out.trans (hb3.mono HB1.out.size)); have z0 : w3.cell? ⟨w.heap.size, 0, none⟩ = some (.int .i64 0) := hz3.cell 0; have z1 : w3.cell? ⟨w.heap.size, 1, none⟩ = some (.string ⟨#[]⟩) := hz3.cell 1; have z2 : w3.cell? ⟨w.heap.size, 2, none⟩ = some (.string ⟨#[]⟩) := hz3.cell 2; have z3 : w3.cell? ⟨w.heap.size, 3, none⟩ = some (.string ⟨#[]⟩) := hz3.cell 3; have z4 : w3.cell? ⟨w.heap.size, 4, none⟩ = some (.string ⟨#[]⟩) := hz3.cell 4; have f0 := hz3.free 0; have f1 := hz3.free 1; have f2 := hz3.free 2; have f3 := hz3.free 3; have f4 := hz3.free 4; clear hz3 HZ1 HB1 hL1))
    obtain ⟨hBW, hW⟩ := zero_store HZ3.out HB3.out
    refine bodyPost_ret (v := .tuple #[.agg #[.int .i64 0, .string ⟨#[]⟩, .string ⟨#[]⟩, .string ⟨#[]⟩, .string ⟨#[]⟩], .iface 25 (.int .i64 3)]) ?_ rfl ⟨rfl, hBW⟩
    have q0 := hW.cell 0
    have q1 := hW.cell 1
    have q2 := hW.cell 2
    have q3 := hW.cell 3
    have q4 := hW.cell 4
    simp only [World.setCells] at q0 q1 q2 q3 q4
    simp [results, Tryz.results41, go_sem, q0, q1, q2, q3, q4]
end Go.Proofs.YtdjpghgnjcmdnaaGreatDoor

/- A record's event, by a vault. -/
namespace Go.Proofs.YtdjpghgnjcmdnaaGreatDoor
open Go.RowKit
attribute [local go_sem ↓] Go.wp_at_zero Go.wp_at_succ
set_option maxRecDepth 100000 in
set_option maxHeartbeats 2000000 in
theorem open_err (pv : Value) (r : Rec) (n : Int) (t : ByteArray) (w : World) (hU : ∀ wx, Below w.heap.size w wx → Calls Tryz.prog 162 #[pv, .agg #[.int .i64 (r.q : Int), .string r.s, .int .i64 (r.g : Int), .string r.p, .string r.d]] wx fun x w' => x = .returned (.tuple #[.string t, .iface 25 (.int .i64 n)]) ∧ Below wx.heap.size wx w') :
    Calls Tryz.prog 126 #[pv, .agg #[.int .i64 (r.q : Int), .string r.s, .int .i64 (r.g : Int), .string r.p, .string r.d]] w fun x w' => x = .returned (.tuple #[.agg #[.int .i64 0, .string ⟨#[]⟩, .string ⟨#[]⟩, .string ⟨#[]⟩, .string ⟨#[]⟩], .iface 25 (.int .i64 n)]) ∧ Below w.heap.size w w' := by
  have bel : Below w.heap.size w ((w.alloc (.cells #[.int .i64 (r.q : Int), .string r.s, .int .i64 (r.g : Int), .string r.p, .string r.d] 74)).alloc (.cells #[.int .i64 0, .string ⟨#[]⟩, .string ⟨#[]⟩, .string ⟨#[]⟩, .string ⟨#[]⟩] 69)) := ((Below.refl _ w).alloc (Nat.le_refl _) _).alloc (by simp) _
  have U := hide (hU _ bel)
  have E4 := hide (HasR.new (w.alloc (.cells #[.int .i64 (r.q : Int), .string r.s, .int .i64 (r.g : Int), .string r.p, .string r.d] 74)) 69 #[.int .i64 0, .string ⟨#[]⟩, .string ⟨#[]⟩, .string ⟨#[]⟩, .string ⟨#[]⟩])
  rw [World.size_alloc] at E4
  have hne := errNe
  have BL := hide bel
  clear bel hU
  go_enter Tryz.func126, Tryz.ntmps126
  go_upto_region 3 with (go_at_call 162; (with_reducible refine U.out.mono ?_); rintro x w1 ⟨rfl, hb1⟩; have B1 := hide (BL.out.trans (hb1.mono BL.out.size)); have X4 := hide (E4.out.below hb1 E4.out.lt); clear hb1)
  have d0 : w1.cell? ⟨w.heap.size + 1, 0, none⟩ = some (.int .i64 0) := X4.out.cell 0
  have d1 : w1.cell? ⟨w.heap.size + 1, 1, none⟩ = some (.string ⟨#[]⟩) := X4.out.cell 1
  have d2 : w1.cell? ⟨w.heap.size + 1, 2, none⟩ = some (.string ⟨#[]⟩) := X4.out.cell 2
  have d3 : w1.cell? ⟨w.heap.size + 1, 3, none⟩ = some (.string ⟨#[]⟩) := X4.out.cell 3
  have d4 : w1.cell? ⟨w.heap.size + 1, 4, none⟩ = some (.string ⟨#[]⟩) := X4.out.cell 4
  have o0 : w1.frozen? ⟨w.heap.size + 1, 0, none⟩ = false := X4.out.free 0
  have o1 : w1.frozen? ⟨w.heap.size + 1, 1, none⟩ = false := X4.out.free 1
  have o2 : w1.frozen? ⟨w.heap.size + 1, 2, none⟩ = false := X4.out.free 2
  have o3 : w1.frozen? ⟨w.heap.size + 1, 3, none⟩ = false := X4.out.free 3
  have o4 : w1.frozen? ⟨w.heap.size + 1, 4, none⟩ = false := X4.out.free 4
  go_wp2
  have XF := HasR.five X4.out (.int .i64 0) (.string ⟨#[]⟩) (.string ⟨#[]⟩) (.string ⟨#[]⟩) (.string ⟨#[]⟩)
  have TF := stir5 w1 (w.heap.size + 1) (.int .i64 0) (.string ⟨#[]⟩) (.string ⟨#[]⟩) (.string ⟨#[]⟩) (.string ⟨#[]⟩)
  generalize ((((w1.setCell ⟨w.heap.size + 1, 0, none⟩ (.int .i64 0)).setCell ⟨w.heap.size + 1, 1, none⟩ (.string ⟨#[]⟩)).setCell ⟨w.heap.size + 1, 2, none⟩ (.string ⟨#[]⟩)).setCell ⟨w.heap.size + 1, 3, none⟩ (.string ⟨#[]⟩)).setCell ⟨w.heap.size + 1, 4, none⟩ (.string ⟨#[]⟩) = wf at XF TF ⊢
  have z0 : wf.cell? ⟨w.heap.size + 1, 0, none⟩ = some (.int .i64 0) := XF.cell 0
  have z1 : wf.cell? ⟨w.heap.size + 1, 1, none⟩ = some (.string ⟨#[]⟩) := XF.cell 1
  have z2 : wf.cell? ⟨w.heap.size + 1, 2, none⟩ = some (.string ⟨#[]⟩) := XF.cell 2
  have z3 : wf.cell? ⟨w.heap.size + 1, 3, none⟩ = some (.string ⟨#[]⟩) := XF.cell 3
  have z4 : wf.cell? ⟨w.heap.size + 1, 4, none⟩ = some (.string ⟨#[]⟩) := XF.cell 4
  refine bodyPost_ret (v := .tuple #[.agg #[.int .i64 0, .string ⟨#[]⟩, .string ⟨#[]⟩, .string ⟨#[]⟩, .string ⟨#[]⟩], .iface 25 (.int .i64 n)]) (by simp [results, Tryz.results126, go_sem, z0, z1, z2, z3, z4]) rfl ⟨rfl, B1.out.trans (TF.below B1.out.size (fun j hj => by simp at hj; omega))⟩
set_option maxRecDepth 100000 in
set_option maxHeartbeats 2000000 in
theorem open_ok25 (pv : Value) (r : Rec) (e : Ev) (w : World) (hr : rightB e = true) (hs : e.s = r.s) (hk : (e.k = 3) ↔ (r.g = 0)) (hL : TabL w) (hMb : ∀ wx, Below w.heap.size w wx → TabM wx) (hU : ∀ wx, Below w.heap.size w wx → Calls Tryz.prog 162 #[pv, .agg #[.int .i64 (r.q : Int), .string r.s, .int .i64 (r.g : Int), .string r.p, .string r.d]] wx fun x w' => x = .returned (.tuple #[.string (textB e), .nilIface]) ∧ Below wx.heap.size wx w') :
    Calls Tryz.prog 126 #[pv, .agg #[.int .i64 (r.q : Int), .string r.s, .int .i64 (r.g : Int), .string r.p, .string r.d]] w fun x w' => x = .returned (.tuple #[.agg #[.int .i64 e.k, .string e.s, .string e.t, .string e.r, .string e.v], .nilIface]) ∧ Below w.heap.size w w' := by
  have bel : Below w.heap.size w ((w.alloc (.cells #[.int .i64 (r.q : Int), .string r.s, .int .i64 (r.g : Int), .string r.p, .string r.d] 74)).alloc (.cells #[.int .i64 0, .string ⟨#[]⟩, .string ⟨#[]⟩, .string ⟨#[]⟩, .string ⟨#[]⟩] 69)) := ((Below.refl _ w).alloc (Nat.le_refl _) _).alloc (by simp) _
  have U := hide (hU _ bel)
  have hsp := split_text hr
  have PA := hide (fun wx (hb : Below w.heap.size w wx) => parse_ok (textB e) wx (Nat.le_trans (text_size hr) (by omega)) (by rw [hsp]; exact acc_text hr) (hL.below hb hL.lt) (hMb wx hb))
  rw [hsp] at PA
  have E3 := hide ((HasR.new w 74 #[.int .i64 (r.q : Int), .string r.s, .int .i64 (r.g : Int), .string r.p, .string r.d]).alloc (.cells #[.int .i64 0, .string ⟨#[]⟩, .string ⟨#[]⟩, .string ⟨#[]⟩, .string ⟨#[]⟩] 69))
  have E4 := hide (HasR.new (w.alloc (.cells #[.int .i64 (r.q : Int), .string r.s, .int .i64 (r.g : Int), .string r.p, .string r.d] 74)) 69 #[.int .i64 0, .string ⟨#[]⟩, .string ⟨#[]⟩, .string ⟨#[]⟩, .string ⟨#[]⟩])
  rw [World.size_alloc] at E4
  have hne := nilNe
  have q1 := same_bytes e.s r.s
  rw [decide_eq_true hs] at q1
  have HKI := hide hk
  have BL := hide bel
  clear bel hU hL hMb hsp hs hk
  go_enter Tryz.func126, Tryz.ntmps126
  go_upto_region 5 with (first
    | (go_at_call 162; (with_reducible refine U.out.mono ?_); rintro x w1 ⟨rfl, hb1⟩; have B1 := hide (BL.out.trans (hb1.mono BL.out.size)); have X3 := hide (E3.out.below hb1 E3.out.lt); have X4 := hide (E4.out.below hb1 E4.out.lt); clear hb1)
    | (go_at_call 41; (with_reducible refine (PA.out _ B1.out).mono ?_); rintro x w2 ⟨rfl, hb2⟩; have B2 := hide (B1.out.trans (hb2.mono B1.out.size)); have Y3 := hide (X3.out.below hb2 X3.out.lt); have Y4 := hide (X4.out.below hb2 X4.out.lt); clear hb2))
  have Z3 := hide (Y3.out.alloc (.cells #[.int .i64 e.k, .string e.s, .string e.t, .string e.r, .string e.v] 69))
  have Z4 := hide (Y4.out.alloc (.cells #[.int .i64 e.k, .string e.s, .string e.t, .string e.r, .string e.v] 69))
  have Z8 := hide (HasR.new w2 69 #[.int .i64 e.k, .string e.s, .string e.t, .string e.r, .string e.v])
  have B3 := hide (B2.out.alloc B2.out.size (.cells #[.int .i64 e.k, .string e.s, .string e.t, .string e.r, .string e.v] 69))
  generalize w2.alloc (.cells #[.int .i64 e.k, .string e.s, .string e.t, .string e.r, .string e.v] 69) = w3 at Z3 Z4 Z8 B3 ⊢
  have x0 : w3.cell? ⟨w2.heap.size, 0, none⟩ = some (.int .i64 e.k) := Z8.out.cell 0
  have x1 : w3.cell? ⟨w2.heap.size, 1, none⟩ = some (.string e.s) := Z8.out.cell 1
  have x2 : w3.cell? ⟨w2.heap.size, 2, none⟩ = some (.string e.t) := Z8.out.cell 2
  have x3 : w3.cell? ⟨w2.heap.size, 3, none⟩ = some (.string e.r) := Z8.out.cell 3
  have x4 : w3.cell? ⟨w2.heap.size, 4, none⟩ = some (.string e.v) := Z8.out.cell 4
  have r1 : w3.cell? ⟨w.heap.size, 1, none⟩ = some (.string r.s) := Z3.out.cell 1
  have r2 : w3.cell? ⟨w.heap.size, 2, none⟩ = some (.int .i64 (r.g : Int)) := Z3.out.cell 2
  obtain ⟨bb, h1, h2, h3, h4, h5⟩ : ∃ bb : Bool, (e.k == 3) = bb ∧ ((r.g : Int) == 0) = bb ∧ decide (e.k = 3) = bb ∧ decide ((r.g : Int) = 0) = bb ∧ decide (r.g = 0) = bb := by
    by_cases h : e.k = 3
    · have h' := HKI.out.1 h
      exact ⟨true, by simp [h], by simp [h'], by simp [h], by simp [h'], by simp [h']⟩
    · have h' : ¬ r.g = 0 := fun x => h (HKI.out.2 x)
      exact ⟨false, by simp [h], by simp [h'], by simp [h], by simp [h'], by simp [h']⟩
  clear HKI
  have d0 : w3.cell? ⟨w.heap.size + 1, 0, none⟩ = some (.int .i64 0) := Z4.out.cell 0
  have d1 : w3.cell? ⟨w.heap.size + 1, 1, none⟩ = some (.string ⟨#[]⟩) := Z4.out.cell 1
  have d2 : w3.cell? ⟨w.heap.size + 1, 2, none⟩ = some (.string ⟨#[]⟩) := Z4.out.cell 2
  have d3 : w3.cell? ⟨w.heap.size + 1, 3, none⟩ = some (.string ⟨#[]⟩) := Z4.out.cell 3
  have d4 : w3.cell? ⟨w.heap.size + 1, 4, none⟩ = some (.string ⟨#[]⟩) := Z4.out.cell 4
  have o0 : w3.frozen? ⟨w.heap.size + 1, 0, none⟩ = false := Z4.out.free 0
  have o1 : w3.frozen? ⟨w.heap.size + 1, 1, none⟩ = false := Z4.out.free 1
  have o2 : w3.frozen? ⟨w.heap.size + 1, 2, none⟩ = false := Z4.out.free 2
  have o3 : w3.frozen? ⟨w.heap.size + 1, 3, none⟩ = false := Z4.out.free 3
  have o4 : w3.frozen? ⟨w.heap.size + 1, 4, none⟩ = false := Z4.out.free 4
  go_wp2
  have XF := HasR.five Z4.out (.int .i64 e.k) (.string e.s) (.string e.t) (.string e.r) (.string e.v)
  have TF := stir5 w3 (w.heap.size + 1) (.int .i64 e.k) (.string e.s) (.string e.t) (.string e.r) (.string e.v)
  generalize ((((w3.setCell ⟨w.heap.size + 1, 0, none⟩ (.int .i64 e.k)).setCell ⟨w.heap.size + 1, 1, none⟩ (.string e.s)).setCell ⟨w.heap.size + 1, 2, none⟩ (.string e.t)).setCell ⟨w.heap.size + 1, 3, none⟩ (.string e.r)).setCell ⟨w.heap.size + 1, 4, none⟩ (.string e.v) = wf at XF TF ⊢
  have z0 : wf.cell? ⟨w.heap.size + 1, 0, none⟩ = some (.int .i64 e.k) := XF.cell 0
  have z1 : wf.cell? ⟨w.heap.size + 1, 1, none⟩ = some (.string e.s) := XF.cell 1
  have z2 : wf.cell? ⟨w.heap.size + 1, 2, none⟩ = some (.string e.t) := XF.cell 2
  have z3 : wf.cell? ⟨w.heap.size + 1, 3, none⟩ = some (.string e.r) := XF.cell 3
  have z4 : wf.cell? ⟨w.heap.size + 1, 4, none⟩ = some (.string e.v) := XF.cell 4
  refine bodyPost_ret (v := .tuple #[.agg #[.int .i64 e.k, .string e.s, .string e.t, .string e.r, .string e.v], .nilIface]) (by simp [results, Tryz.results126, go_sem, z0, z1, z2, z3, z4]) rfl ⟨rfl, B3.out.trans (TF.below B3.out.size (fun j hj => by simp at hj; omega))⟩
end Go.Proofs.YtdjpghgnjcmdnaaGreatDoor
