/- Texts of this proof, one behind the other. -/
import Derived.Laws.CopyOwn
import Derived.Deep.RegionHeld3
import Derived.Deep.DeepCutAuto
import Derived.Test.YtdjpghgnjcmdnaaGreatDoorPart36
/- What a call answers, unless it answers an error: then its number is thrown. -/
namespace Go.Proofs.YtdjpghgnjcmdnaaGreatDoor
open Go.RowKit Go.Shelf Go.Sort Go.Maps
attribute [local go_sem ↓] Go.wp_at_zero Go.wp_at_succ
set_option linter.unusedSectionVars false
variable [Inhabited LowT]
variable [Inhabited Cl] [Inhabited Ev]
set_option maxRecDepth 100000 in
theorem must54_bad (n : Int) (p : Option Addr) (w : World) (hE : TabE w) : Calls Tryz.prog 54 #[.pointer p, .iface 25 (.int .i64 n)] w fun e w' => e = thrown n ∧ Below w.heap.size w w' := by
  have q := intE_ne
  have TH := hide (throw_any n w hE)
  clear hE
  go_enter Tryz.func54, Tryz.ntmps54
  go_wp2_with (go_at_call 49; (with_reducible refine TH.out.mono ?_); rintro _ w8 ⟨rfl, hb⟩)
  exact ⟨rfl, rfl, hb⟩
set_option maxRecDepth 100000 in
theorem must59_ok (s : ByteArray) (w : World) : Calls Tryz.prog 59 #[.string s, .nilIface] w fun e w' => e = .returned (.string s) ∧ w' = w := by
  have q := nilEr_ne
  go_enter Tryz.func59, Tryz.ntmps59
  go_wp2
  go_ret
  exact ⟨rfl, rfl⟩
set_option maxRecDepth 100000 in
theorem must59_bad (n : Int) (s : ByteArray) (w : World) (hE : TabE w) : Calls Tryz.prog 59 #[.string s, .iface 25 (.int .i64 n)] w fun e w' => e = thrown n ∧ Below w.heap.size w w' := by
  have q := intE_ne
  have TH := hide (throw_any n w hE)
  clear hE
  go_enter Tryz.func59, Tryz.ntmps59
  go_wp2_with (go_at_call 49; (with_reducible refine TH.out.mono ?_); rintro _ w8 ⟨rfl, hb⟩)
  exact ⟨rfl, rfl, hb⟩
set_option maxRecDepth 100000 in
set_option maxHeartbeats 1000000 in
theorem must40_ok (k : Int) (s t r v : ByteArray) (w : World) : Calls Tryz.prog 40 #[.agg #[.int .i64 k, .string s, .string t, .string r, .string v], .nilIface] w fun e w' => e = .returned (.agg #[.int .i64 k, .string s, .string t, .string r, .string v]) ∧ Below w.heap.size w w' := by
  have q := nilEr_ne
  have X := hide (HasR.new (w.alloc (.cells #[.int .i64 k, .string s, .string t, .string r, .string v] 69)) 69 #[.int .i64 k, .string s, .string t, .string r, .string v])
  have B := hide (((Below.refl w.heap.size w).alloc (Nat.le_refl _) (.cells #[.int .i64 k, .string s, .string t, .string r, .string v] 69)).alloc (by simp) (.cells #[.int .i64 k, .string s, .string t, .string r, .string v] 69))
  rw [World.size_alloc] at X
  go_enter Tryz.func40, Tryz.ntmps40
  go_wp2
  exact bodyPost_ret (v := .agg #[.int .i64 k, .string s, .string t, .string r, .string v]) (results_cell_row Tryz.results40 _ _ (w.heap.size + 1) 69 #[.int .i64 k, .string s, .string t, .string r, .string v] (0, 0) _ rfl X.out Tryz.underlying69 rfl (by kernel_rfl)) rfl ⟨rfl, B.out⟩
set_option maxRecDepth 100000 in
set_option maxHeartbeats 1000000 in
theorem must40_bad (n : Int) (k : Int) (s t r v : ByteArray) (w : World) (hE : TabE w) : Calls Tryz.prog 40 #[.agg #[.int .i64 k, .string s, .string t, .string r, .string v], .iface 25 (.int .i64 n)] w fun e w' => e = thrown n ∧ Below w.heap.size w w' := by
  have q := intE_ne
  have B := hide (((Below.refl w.heap.size w).alloc (Nat.le_refl _) (.cells #[.int .i64 k, .string s, .string t, .string r, .string v] 69)).alloc (by simp) (.cells #[.int .i64 0, .string ⟨#[]⟩, .string ⟨#[]⟩, .string ⟨#[]⟩, .string ⟨#[]⟩] 69))
  have TH := hide (fun wx (hb : Below w.heap.size w wx) => throw_any n wx (hE.below hb hE.lt))
  clear hE
  go_enter Tryz.func40, Tryz.ntmps40
  go_wp2_with (go_at_call 49; (with_reducible refine (TH.out _ B.out).mono ?_); rintro _ w8 ⟨rfl, hb⟩)
  exact ⟨rfl, rfl, B.out.trans (hb.mono B.out.size)⟩
set_option maxRecDepth 100000 in
set_option maxHeartbeats 1000000 in
theorem must42_ok (q0 : Int) (s : ByteArray) (g : Int) (p d : ByteArray) (w : World) : Calls Tryz.prog 42 #[.agg #[.int .i64 q0, .string s, .int .i64 g, .string p, .string d], .nilIface] w fun e w' => e = .returned (.agg #[.int .i64 q0, .string s, .int .i64 g, .string p, .string d]) ∧ Below w.heap.size w w' := by
  have q := nilEr_ne
  have X := hide (HasR.new (w.alloc (.cells #[.int .i64 q0, .string s, .int .i64 g, .string p, .string d] 74)) 74 #[.int .i64 q0, .string s, .int .i64 g, .string p, .string d])
  have B := hide (((Below.refl w.heap.size w).alloc (Nat.le_refl _) (.cells #[.int .i64 q0, .string s, .int .i64 g, .string p, .string d] 74)).alloc (by simp) (.cells #[.int .i64 q0, .string s, .int .i64 g, .string p, .string d] 74))
  rw [World.size_alloc] at X
  go_enter Tryz.func42, Tryz.ntmps42
  go_wp2
  exact bodyPost_ret (v := .agg #[.int .i64 q0, .string s, .int .i64 g, .string p, .string d]) (results_cell_row Tryz.results42 _ _ (w.heap.size + 1) 74 #[.int .i64 q0, .string s, .int .i64 g, .string p, .string d] (0, 0) _ rfl X.out Tryz.underlying74 rfl (by kernel_rfl)) rfl ⟨rfl, B.out⟩
set_option maxRecDepth 100000 in
set_option maxHeartbeats 1000000 in
theorem must42_bad (n : Int) (q0 : Int) (s : ByteArray) (g : Int) (p d : ByteArray) (w : World) (hE : TabE w) : Calls Tryz.prog 42 #[.agg #[.int .i64 q0, .string s, .int .i64 g, .string p, .string d], .iface 25 (.int .i64 n)] w fun e w' => e = thrown n ∧ Below w.heap.size w w' := by
  have q := intE_ne
  have B := hide (((Below.refl w.heap.size w).alloc (Nat.le_refl _) (.cells #[.int .i64 q0, .string s, .int .i64 g, .string p, .string d] 74)).alloc (by simp) (.cells #[.int .i64 0, .string ⟨#[]⟩, .int .i64 0, .string ⟨#[]⟩, .string ⟨#[]⟩] 74))
  have TH := hide (fun wx (hb : Below w.heap.size w wx) => throw_any n wx (hE.below hb hE.lt))
  clear hE
  go_enter Tryz.func42, Tryz.ntmps42
  go_wp2_with (go_at_call 49; (with_reducible refine (TH.out _ B.out).mono ?_); rintro _ w8 ⟨rfl, hb⟩)
  exact ⟨rfl, rfl, B.out.trans (hb.mono B.out.size)⟩
set_option maxRecDepth 100000 in
theorem counts_zero (w : World) : Calls Tryz.prog 86 #[.agg #[.int .i64 0, .string ⟨#[]⟩, .slice none 0 0, .int .i64 0]] w fun x w' => x = .returned (.bool false) ∧ Below w.heap.size w w' := by
  have B := hide ((Below.refl w.heap.size w).alloc (Nat.le_refl _) (.cells #[.int .i64 0, .string ⟨#[]⟩, .slice none 0 0, .int .i64 0] 32))
  go_enter Tryz.func86, Tryz.ntmps86
  go_wp2
  go_ret
  exact ⟨rfl, B.out⟩
set_option maxRecDepth 100000 in
set_option maxHeartbeats 1000000 in
/-- Nothing that was kept can be loaded. -/
theorem load_zero (vb : Nat) (w : World) : Calls Tryz.prog 55 #[.pointer (some ⟨vb, 0, none⟩), .agg #[.int .i64 0, .string ⟨#[]⟩, .slice none 0 0, .int .i64 0]] w fun x w' => x = .returned (.tuple #[.pointer none, .iface 25 (.int .i64 1)]) ∧ Below w.heap.size w w' := by
  have B := hide ((Below.refl w.heap.size w).alloc (Nat.le_refl _) (.cells #[.int .i64 0, .string ⟨#[]⟩, .slice none 0 0, .int .i64 0] 32))
  have hq := ptrV_nil vb
  have CZ := hide counts_zero
  go_enter Tryz.func55, Tryz.ntmps55
  go_wp2_with (go_at_call 86; (with_reducible refine (CZ.out _).mono ?_); rintro y w2 ⟨rfl, hb2⟩)
  go_ret2
  exact ⟨rfl, B.out.trans (hb2.mono B.out.size)⟩
end Go.Proofs.YtdjpghgnjcmdnaaGreatDoor

/- Which event a text is, of whatever length a line may be. -/
namespace Go.Proofs.YtdjpghgnjcmdnaaGreatDoor
open Go.RowKit
attribute [local go_sem ↓] Go.wp_at_zero Go.wp_at_succ
theorem splitN_anyW (s : ByteArray) (w : World) (hs : s.size ≤ 40000) (hM : TabM w) : Calls Tryz.prog 113 #[.string s, .string ⟨#[32]⟩, .int .i64 5] w fun e w' => e = .returned (.slice (some ⟨w.heap.size, 0, none⟩) (fiveB s).length (min 5 (s.size + 1))) ∧ w' = w.alloc (.cells (Lib.cellsOf (fiveB s) (min 5 (s.size + 1))) 9) := by
  obtain ⟨m, hm⟩ := hM
  exact Any.strings_SplitN (ρ := laysSplitN_ren) { laysSplitN with } laysSplitN.i9 s blankB 5 m w (by omega) hm (by decide) (by decide) (by decide)
theorem splitN_atW (s : ByteArray) (w : World) (B : Nat) (hB : w.heap.size = B) (hs : s.size ≤ 40000) (hM : TabM w) : Calls Tryz.prog 113 #[.string s, .string ⟨#[32]⟩, .int .i64 5] w fun e w' => e = .returned (.slice (some ⟨B, 0, none⟩) (fiveB s).length (min 5 (s.size + 1))) ∧ (∀ j v, ((fiveB s).map Value.string)[j]? = some v → w'.cell? ⟨B, j, none⟩ = some v) ∧ Below w.heap.size w w' := by
  subst hB
  refine (splitN_anyW s w hs hM).mono fun e w' ⟨he, hw⟩ => ⟨he, fun j v hv => ?_, ?_⟩
  · subst hw
    rw [(HasR.new w 9 _).cell j]
    unfold Lib.cellsOf
    have hj := (List.getElem?_eq_some_iff.1 hv).1
    rw [List.getElem?_toArray, List.getElem?_append_left hj]
    exact hv
  · subst hw
    exact (Below.refl _ w).alloc (Nat.le_refl _) _
set_option maxRecDepth 100000 in
set_option maxHeartbeats 1000000 in
theorem split_evW (s : ByteArray) (w : World) (hs : s.size ≤ 40000) (hL : TabL w) (hM : TabM w) : Calls Tryz.prog 76 #[.string s] w fun e w' => e = .returned (.agg #[.int .i64 (splitEv s).k, .string (splitEv s).s, .string (splitEv s).t, .string (splitEv s).r, .string (splitEv s).v]) ∧ Below w.heap.size w w' := by
  have hlM := hM.lt
  have hlL := hL.lt
  have S := hide (fun wx (hMx : TabM wx) (hB : wx.heap.size = w.heap.size + 1 + 1) => splitN_atW s wx (w.heap.size + 1 + 1) hB hs hMx)
  have F := hide (five_len s)
  unfold splitEv
  generalize fiveB s = ws at S F ⊢
  obtain ⟨cs, hcs⟩ : ∃ cs, cs = ws.map Value.string := ⟨_, rfl⟩
  have hlen : cs.length = ws.length := by rw [hcs, List.length_map]
  have hone : ∀ v ∈ cs, v.oneCell' = true := by
    rw [hcs]; intro v hv
    obtain ⟨x, _, rfl⟩ := List.mem_map.1 hv
    rfl
  have hrow := splice_five ws F.out.1
  rw [← hcs] at S hrow
  have HL := hide hlen
  have HONE := hide hone
  have HROW := hide hrow
  have K := hide (fun (wx : World) (hLx : TabL wx) => kindOf_any (at_ ws 0) wx hLx)
  unfold evOf
  simp only
  generalize kindB (at_ ws 0).data.toList = kk at K ⊢
  generalize at_ ws 0 = p0 at K HROW
  generalize at_ ws 1 = p1 at HROW ⊢
  generalize at_ ws 2 = p2 at HROW ⊢
  generalize at_ ws 3 = p3 at HROW ⊢
  generalize at_ ws 4 = p4 at HROW ⊢
  clear hlen hone hrow hcs
  have hrow0 : HasR ((w.alloc (.cells #[.int .i64 0, .string ⟨#[]⟩, .string ⟨#[]⟩, .string ⟨#[]⟩, .string ⟨#[]⟩] 69)).alloc (.cells #[.string ⟨#[]⟩, .string ⟨#[]⟩, .string ⟨#[]⟩, .string ⟨#[]⟩, .string ⟨#[]⟩] 171)).drew w.heap.size 69 #[.int .i64 0, .string ⟨#[]⟩, .string ⟨#[]⟩, .string ⟨#[]⟩, .string ⟨#[]⟩] := ((HasR.new w 69 _).alloc _).drew
  have hrow1 : HasR ((w.alloc (.cells #[.int .i64 0, .string ⟨#[]⟩, .string ⟨#[]⟩, .string ⟨#[]⟩, .string ⟨#[]⟩] 69)).alloc (.cells #[.string ⟨#[]⟩, .string ⟨#[]⟩, .string ⟨#[]⟩, .string ⟨#[]⟩, .string ⟨#[]⟩] 171)).drew (w.heap.size + 1) 171 zero5.toArray := (HasR.new2 w _ 171 _).drew
  have bel : Below w.heap.size w ((w.alloc (.cells #[.int .i64 0, .string ⟨#[]⟩, .string ⟨#[]⟩, .string ⟨#[]⟩, .string ⟨#[]⟩] 69)).alloc (.cells #[.string ⟨#[]⟩, .string ⟨#[]⟩, .string ⟨#[]⟩, .string ⟨#[]⟩, .string ⟨#[]⟩] 171)).drew := (((Below.refl _ w).alloc (Nat.le_refl _) _).alloc (by simp) _).drew
  have hMd := hM.below bel hlM
  have hLd := hL.below bel hlL
  have hsz : ((w.alloc (.cells #[.int .i64 0, .string ⟨#[]⟩, .string ⟨#[]⟩, .string ⟨#[]⟩, .string ⟨#[]⟩] 69)).alloc (.cells #[.string ⟨#[]⟩, .string ⟨#[]⟩, .string ⟨#[]⟩, .string ⟨#[]⟩, .string ⟨#[]⟩] 171)).drew.heap.size = w.heap.size + 1 + 1 := by simp
  have HX := hide (And.intro hrow0 (And.intro hrow1 (And.intro bel (And.intro hMd (And.intro hLd hsz)))))
  clear hrow0 hrow1 bel hMd hLd hsz
  go_enter Tryz.func76, Tryz.ntmps76
  go_wp2
  go_region_held3 (fun _ => True) (trivial) (first
    | (go_at_call 113; (with_reducible refine (S.out _ HX.out.2.2.2.1 HX.out.2.2.2.2.2).mono ?_); rintro e w1 ⟨rfl, hc1, hb1⟩; have HC := hide hc1; clear hc1; have hr0 := HX.out.1.below hb1 (by rw [HX.out.2.2.2.2.2]; omega); have hr1 := HX.out.2.1.below hb1 (by rw [HX.out.2.2.2.2.2]; omega); have bel1 := HX.out.2.2.1.trans (hb1.mono (by rw [HX.out.2.2.2.2.2]; omega)); have hL1 := HX.out.2.2.2.2.1.below hb1 (by rw [HX.out.2.2.2.2.2]; omega))
    | (refine step_copy_splice rfl (.tmp 4) (.tmp 6) 61 61 rfl 9 Tryz.underlying61 (by kernel_rfl) (some ⟨w.heap.size + 1, 0, none⟩) (some ⟨w.heap.size + 1 + 1, 0, none⟩) 5 5 _ _ rfl rfl (w.heap.size + 1) 0 zero5 171 hr1 cs (HL.out.trans (Nat.min_eq_left F.out.1).symm) (fun _ => ⟨rfl, _, rfl, fun j v hv => (by rw [Addr.add_lit, Nat.zero_add]; exact HC.out j v hv)⟩) (by rw [Nat.zero_add, HL.out]; exact F.out.1) HONE.out (w.heap.size + 1) w1 (Below.refl _ _) (Nat.le_refl _) ?_; intro w2 hg2 hb2))
  have hq : HasR w2 (w.heap.size + 1) 171 #[.string p0, .string p1, .string p2, .string p3, .string p4] := by
    rw [← HROW.out]; exact hg2.out
  have hz : HasR w2 w.heap.size 69 #[.int .i64 0, .string ⟨#[]⟩, .string ⟨#[]⟩, .string ⟨#[]⟩, .string ⟨#[]⟩] := hr0.below hb2 (by omega)
  have bel2 : Below w.heap.size w w2 := bel1.trans (hb2.mono (by omega))
  have hL2 : TabL w2.drew := (hL1.below hb2 (by omega)).below (Below.refl w2.heap.size w2).drew (hL1.below hb2 (by omega)).lt
  have l2 : w.heap.size + 1 < w2.heap.size := hq.lt
  have HQ := hide hq
  have HZ := hide hz
  have HB := hide bel2
  have x0 : w2.cell? ⟨w.heap.size + 1, 0, none⟩ = some (.string p0) := hq.cell 0
  have x1 : w2.cell? ⟨w.heap.size + 1, 1, none⟩ = some (.string p1) := hq.cell 1
  have x2 : w2.cell? ⟨w.heap.size + 1, 2, none⟩ = some (.string p2) := hq.cell 2
  have x3 : w2.cell? ⟨w.heap.size + 1, 3, none⟩ = some (.string p3) := hq.cell 3
  have x4 : w2.cell? ⟨w.heap.size + 1, 4, none⟩ = some (.string p4) := hq.cell 4
  clear hq hz bel2 hg2 hb2 hr0 hr1 hL1 bel1 hb1 HC HX HROW HL HONE S F hM hL
  go_wp2
  go_region_held3 (fun wx => wx.cell? ⟨w.heap.size + 1, 0, none⟩ = some (.string p0) ∧ wx.cell? ⟨w.heap.size + 1, 1, none⟩ = some (.string p1) ∧ wx.cell? ⟨w.heap.size + 1, 2, none⟩ = some (.string p2) ∧ wx.cell? ⟨w.heap.size + 1, 3, none⟩ = some (.string p3) ∧ wx.cell? ⟨w.heap.size + 1, 4, none⟩ = some (.string p4)) (first | (with_reducible exact ⟨y0, y1, y2, y3, y4⟩) | go_keep)
    (first
    | (go_at_call 114; (with_reducible refine (K.out _ hL2).mono ?_); rintro e w3 ⟨rfl, hb3⟩; have hb4 := below_of_drew hb3; have hq3 := HQ.out.below hb4 l2; have hz3 := HZ.out.below hb4 (Nat.lt_of_le_of_lt (Nat.le_succ _) l2); have HZ3 := hide hz3; have hbw3 := hide (HB.out.trans (hb4.mono HB.out.size)); have y0 : w3.cell? ⟨w.heap.size + 1, 0, none⟩ = some (.string p0) := hq3.cell 0; have y1 : w3.cell? ⟨w.heap.size + 1, 1, none⟩ = some (.string p1) := hq3.cell 1; have y2 : w3.cell? ⟨w.heap.size + 1, 2, none⟩ = some (.string p2) := hq3.cell 2; have y3 : w3.cell? ⟨w.heap.size + 1, 3, none⟩ = some (.string p3) := hq3.cell 3; have y4 : w3.cell? ⟨w.heap.size + 1, 4, none⟩ = some (.string p4) := hq3.cell 4; have z0 : w3.cell? ⟨w.heap.size, 0, none⟩ = some (.int .i64 0) := hz3.cell 0; have z1 : w3.cell? ⟨w.heap.size, 1, none⟩ = some (.string ⟨#[]⟩) := hz3.cell 1; have z2 : w3.cell? ⟨w.heap.size, 2, none⟩ = some (.string ⟨#[]⟩) := hz3.cell 2; have z3 : w3.cell? ⟨w.heap.size, 3, none⟩ = some (.string ⟨#[]⟩) := hz3.cell 3; have z4 : w3.cell? ⟨w.heap.size, 4, none⟩ = some (.string ⟨#[]⟩) := hz3.cell 4; have f0 := hz3.free 0; have f1 := hz3.free 1; have f2 := hz3.free 2; have f3 := hz3.free 3; have f4 := hz3.free 4; clear hq3 hz3))
  go_wp2
  exact bodyPost_ret (v := .agg #[.int .i64 kk, .string p1, .string p2, .string p3, .string p4]) (results_cell_row Tryz.results76 _ _ w.heap.size 69 #[.int .i64 kk, .string p1, .string p2, .string p3, .string p4] (0, 0) _ rfl (HasR.whole HZ3.out [.int .i64 kk, .string p1, .string p2, .string p3, .string p4] rfl) Tryz.underlying69 rfl (by kernel_rfl)) rfl ⟨rfl, below_setCells [.int .i64 kk, .string p1, .string p2, .string p3, .string p4] 0 _ _ _ _ hbw3.out (Nat.le_refl _)⟩
set_option maxRecDepth 100000 in
set_option maxHeartbeats 1000000 in
theorem parse_okW (s : ByteArray) (w : World) (hs : s.size ≤ 40000) (h : accB s (splitEv s) = true) (hL : TabL w) (hM : TabM w) : Calls Tryz.prog 41 #[.string s] w fun e w' => e = .returned (.tuple #[.agg #[.int .i64 (splitEv s).k, .string (splitEv s).s, .string (splitEv s).t, .string (splitEv s).r, .string (splitEv s).v], .nilIface]) ∧ Below w.heap.size w w' := by
  obtain ⟨hr, ht⟩ := acc_of h
  have hlM := hM.lt
  have hlL := hL.lt
  have S := hide (fun wx (hLx : TabL wx) (hMx : TabM wx) => split_evW s wx hs hLx hMx)
  have P := hide (fun wx (hLx : TabL wx) => print_ok (splitEv s).k (splitEv s).s (splitEv s).t (splitEv s).r (splitEv s).v wx hr hLx)
  have e0 : (⟨(splitEv s).k, (splitEv s).s, (splitEv s).t, (splitEv s).r, (splitEv s).v⟩ : Ev) = splitEv s := rfl
  rw [e0, ht] at P
  clear e0 hr ht h
  generalize (splitEv s).k = k at S P ⊢
  generalize (splitEv s).s = a at S P ⊢
  generalize (splitEv s).t = b at S P ⊢
  generalize (splitEv s).r = c at S P ⊢
  generalize (splitEv s).v = d at S P ⊢
  have bel := (Below.refl _ w).alloc (Nat.le_refl _) (.cells #[.int .i64 0, .string ⟨#[]⟩, .string ⟨#[]⟩, .string ⟨#[]⟩, .string ⟨#[]⟩] 69)
  have hz : HasR (w.alloc (.cells #[.int .i64 0, .string ⟨#[]⟩, .string ⟨#[]⟩, .string ⟨#[]⟩, .string ⟨#[]⟩] 69)) w.heap.size 69 #[.int .i64 0, .string ⟨#[]⟩, .string ⟨#[]⟩, .string ⟨#[]⟩, .string ⟨#[]⟩] := HasR.new w 69 _
  have HB := hide bel
  have HZ := hide hz
  have hL0 := hL.below bel hlL
  have hM0 := hM.below bel hlM
  clear bel hz
  go_enter Tryz.func41, Tryz.ntmps41
  go_wp2_with (first
    | (go_at_call 76; (with_reducible refine (S.out _ hL0 hM0).mono ?_); rintro e w1 ⟨rfl, hb1⟩; have hL1 := hL0.below hb1 hL0.lt; have hM1 := hM0.below hb1 hM0.lt; have HZ1 := hide (HZ.out.below hb1 HZ.out.lt); have HB1 := hide (HB.out.trans (hb1.mono HB.out.size)); clear hL0 hM0 HZ HB)
    | (go_at_call 75; (with_reducible refine (P.out _ hL1).mono ?_); rintro e w2 ⟨rfl, hb2⟩; have hL2 := hL1.below hb2 hL1.lt; have hM2 := hM1.below hb2 hM1.lt; have HZ2 := hide (HZ1.out.below hb2 HZ1.out.lt); have HB2 := hide (HB1.out.trans (hb2.mono HB1.out.size)); clear hL1 hM1 HZ1 HB1)
    | (go_at_call 76; (with_reducible refine (S.out _ hL2 hM2).mono ?_); rintro e w3 ⟨rfl, hb3⟩; have hz3 := HZ2.out.below hb3 HZ2.out.lt; have HZ3 := hide hz3; have HB3 := hide (HB2.out.trans (hb3.mono HB2.out.size)); have z0 : w3.cell? ⟨w.heap.size, 0, none⟩ = some (.int .i64 0) := hz3.cell 0; have z1 : w3.cell? ⟨w.heap.size, 1, none⟩ = some (.string ⟨#[]⟩) := hz3.cell 1; have z2 : w3.cell? ⟨w.heap.size, 2, none⟩ = some (.string ⟨#[]⟩) := hz3.cell 2; have z3 : w3.cell? ⟨w.heap.size, 3, none⟩ = some (.string ⟨#[]⟩) := hz3.cell 3; have z4 : w3.cell? ⟨w.heap.size, 4, none⟩ = some (.string ⟨#[]⟩) := hz3.cell 4; have f0 := hz3.free 0; have f1 := hz3.free 1; have f2 := hz3.free 2; have f3 := hz3.free 3; have f4 := hz3.free 4; clear hz3 hL2 hM2 HZ2 HB2))
  have hW := HasR.whole HZ3.out [.int .i64 k, .string a, .string b, .string c, .string d] rfl
  have hBW := below_setCells [.int .i64 k, .string a, .string b, .string c, .string d] 0 _ _ _ _ HB3.out (Nat.le_refl _)
  refine bodyPost_ret (v := .tuple #[.agg #[.int .i64 k, .string a, .string b, .string c, .string d], .nilIface]) ?_ rfl ⟨rfl, hBW⟩
  have q0 := hW.cell 0
  have q1 := hW.cell 1
  have q2 := hW.cell 2
  have q3 := hW.cell 3
  have q4 := hW.cell 4
  simp only [World.setCells] at q0 q1 q2 q3 q4
  simp [results, Tryz.results41, go_sem, q0, q1, q2, q3, q4]
set_option maxRecDepth 100000 in
set_option maxHeartbeats 1000000 in
theorem parse_badW (s : ByteArray) (w : World) (hs : s.size ≤ 40000) (h : accB s (splitEv s) = false) (hL : TabL w) (hM : TabM w) : Calls Tryz.prog 41 #[.string s] w fun e w' => e = .returned (.tuple #[.agg #[.int .i64 0, .string ⟨#[]⟩, .string ⟨#[]⟩, .string ⟨#[]⟩, .string ⟨#[]⟩], .iface 25 (.int .i64 3)]) ∧ Below w.heap.size w w' := by
  have hlM := hM.lt
  have hlL := hL.lt
  have S := hide (fun wx (hLx : TabL wx) (hMx : TabM wx) => split_evW s wx hs hLx hMx)
  have e0 : (⟨(splitEv s).k, (splitEv s).s, (splitEv s).t, (splitEv s).r, (splitEv s).v⟩ : Ev) = splitEv s := rfl
  have bel := (Below.refl _ w).alloc (Nat.le_refl _) (.cells #[.int .i64 0, .string ⟨#[]⟩, .string ⟨#[]⟩, .string ⟨#[]⟩, .string ⟨#[]⟩] 69)
  have hz : HasR (w.alloc (.cells #[.int .i64 0, .string ⟨#[]⟩, .string ⟨#[]⟩, .string ⟨#[]⟩, .string ⟨#[]⟩] 69)) w.heap.size 69 #[.int .i64 0, .string ⟨#[]⟩, .string ⟨#[]⟩, .string ⟨#[]⟩, .string ⟨#[]⟩] := HasR.new w 69 _
  have HB := hide bel
  have HZ := hide hz
  have hL0 := hL.below bel hlL
  have hM0 := hM.below bel hlM
  clear bel hz
  cases hr : rightB (splitEv s)
  · have P := hide (fun wx => print_bad (splitEv s).k (splitEv s).s (splitEv s).t (splitEv s).r (splitEv s).v wx hr)
    clear e0 hr h
    generalize (splitEv s).k = k at S P
    generalize (splitEv s).s = a at S P
    generalize (splitEv s).t = b at S P
    generalize (splitEv s).r = c at S P
    generalize (splitEv s).v = d at S P
    go_enter Tryz.func41, Tryz.ntmps41
    go_wp2_with (first
      | (go_at_call 76; (with_reducible refine (S.out _ hL0 hM0).mono ?_); rintro e w1 ⟨rfl, hb1⟩; have HZ1 := hide (HZ.out.below hb1 HZ.out.lt); have HB1 := hide (HB.out.trans (hb1.mono HB.out.size)); clear hL0 hM0 HZ HB)
      | (go_at_call 75; (with_reducible refine (P.out _).mono ?_); rintro e w3 ⟨rfl, hb3⟩; have hz3 := HZ1.out.below hb3 HZ1.out.lt; have HZ3 := hide hz3; have HB3 := hide (HB1.out.trans (hb3.mono HB1.out.size)); have z0 : w3.cell? ⟨w.heap.size, 0, none⟩ = some (.int .i64 0) := hz3.cell 0; have z1 : w3.cell? ⟨w.heap.size, 1, none⟩ = some (.string ⟨#[]⟩) := hz3.cell 1; have z2 : w3.cell? ⟨w.heap.size, 2, none⟩ = some (.string ⟨#[]⟩) := hz3.cell 2; have z3 : w3.cell? ⟨w.heap.size, 3, none⟩ = some (.string ⟨#[]⟩) := hz3.cell 3; have z4 : w3.cell? ⟨w.heap.size, 4, none⟩ = some (.string ⟨#[]⟩) := hz3.cell 4; have f0 := hz3.free 0; have f1 := hz3.free 1; have f2 := hz3.free 2; have f3 := hz3.free 3; have f4 := hz3.free 4; clear hz3 HZ1 HB1))
    obtain ⟨hBW, hW⟩ := zero_store HZ3.out HB3.out
    refine bodyPost_ret (v := .tuple #[.agg #[.int .i64 0, .string ⟨#[]⟩, .string ⟨#[]⟩, .string ⟨#[]⟩, .string ⟨#[]⟩], .iface 25 (.int .i64 3)]) ?_ rfl ⟨rfl, hBW⟩
    have q0 := hW.cell 0
    have q1 := hW.cell 1
    have q2 := hW.cell 2
    have q3 := hW.cell 3
    have q4 := hW.cell 4
    simp only [World.setCells] at q0 q1 q2 q3 q4
    simp [results, Tryz.results41, go_sem, q0, q1, q2, q3, q4]
  · have P := hide (fun wx (hLx : TabL wx) => print_ok (splitEv s).k (splitEv s).s (splitEv s).t (splitEv s).r (splitEv s).v wx hr hLx)
    rw [e0] at P
    have hne : ((textB (splitEv s)).toList == s.toList) = false := by
      refine text_ne fun e => ?_
      unfold accB at h
      rw [hr, Bool.true_and, ← e] at h
      exact absurd rfl (of_decide_eq_false h)
    clear e0 hr h
    generalize textB (splitEv s) = T at P hne
    generalize (splitEv s).k = k at S P
    generalize (splitEv s).s = a at S P
    generalize (splitEv s).t = b at S P
    generalize (splitEv s).r = c at S P
    generalize (splitEv s).v = d at S P
    go_enter Tryz.func41, Tryz.ntmps41
    go_wp2_with (first
      | (go_at_call 76; (with_reducible refine (S.out _ hL0 hM0).mono ?_); rintro e w1 ⟨rfl, hb1⟩; have hL1 := hL0.below hb1 hL0.lt; have HZ1 := hide (HZ.out.below hb1 HZ.out.lt); have HB1 := hide (HB.out.trans (hb1.mono HB.out.size)); clear hL0 hM0 HZ HB)
      | (go_at_call 75; (with_reducible refine (P.out _ hL1).mono ?_); rintro e w3 ⟨rfl, hb3⟩; have hz3 := HZ1.out.below hb3 HZ1.out.lt; have HZ3 := hide hz3; have HB3 := hide (HB1.out.trans (hb3.mono HB1.out.size)); have z0 : w3.cell? ⟨w.heap.size, 0, none⟩ = some (.int .i64 0) := hz3.cell 0; have z1 : w3.cell? ⟨w.heap.size, 1, none⟩ = some (.string ⟨#[]⟩) := hz3.cell 1; have z2 : w3.cell? ⟨w.heap.size, 2, none⟩ = some (.string ⟨#[]⟩) := hz3.cell 2; have z3 : w3.cell? ⟨w.heap.size, 3, none⟩ = some (.string ⟨#[]⟩) := hz3.cell 3; have z4 : w3.cell? ⟨w.heap.size, 4, none⟩ = some (.string ⟨#[]⟩) := hz3.cell 4; have f0 := hz3.free 0; have f1 := hz3.free 1; have f2 := hz3.free 2; have f3 := hz3.free 3; have f4 := hz3.free 4; clear hz3 HZ1 HB1 hL1))
    obtain ⟨hBW, hW⟩ := zero_store HZ3.out HB3.out
    refine bodyPost_ret (v := .tuple #[.agg #[.int .i64 0, .string ⟨#[]⟩, .string ⟨#[]⟩, .string ⟨#[]⟩, .string ⟨#[]⟩], .iface 25 (.int .i64 3)]) ?_ rfl ⟨rfl, hBW⟩
    have q0 := hW.cell 0
    have q1 := hW.cell 1
    have q2 := hW.cell 2
    have q3 := hW.cell 3
    have q4 := hW.cell 4
    simp only [World.setCells] at q0 q1 q2 q3 q4
    simp [results, Tryz.results41, go_sem, q0, q1, q2, q3, q4]
end Go.Proofs.YtdjpghgnjcmdnaaGreatDoor

/- A feed that is full tells nothing; what a source answers where nothing happens. -/
namespace Go.Proofs.YtdjpghgnjcmdnaaGreatDoor
open Go.RowKit Go.Shelf Go.Sort Go.Maps
set_option linter.unusedSectionVars false
variable [Inhabited LowT]
variable [Inhabited Cl] [Inhabited Ev]
attribute [local go_sem ↓] Go.wp_at_zero Go.wp_at_succ
set_option maxRecDepth 100000 in
set_option maxHeartbeats 2000000 in
theorem tell_full (w : World) (fb vb : Nat) (v : Value) (rs : List Rec) (e : Ev) (hF : FeedV w fb vb v rs) (hr : rightB e = true) (hlen : 100 ≤ rs.length) (hL : TabL w) :
    Calls Tryz.prog 78 #[.pointer (some ⟨fb, 0, none⟩), .agg #[.int .i64 e.k, .string e.s, .string e.t, .string e.r, .string e.v]] w fun x w' => x = .returned (.tuple #[.agg #[.int .i64 0, .string ⟨#[]⟩, .int .i64 0, .string ⟨#[]⟩, .string ⟨#[]⟩], .iface 25 (.int .i64 12)]) ∧ Below w.heap.size w w' := by
  have bel : Below w.heap.size w ((w.alloc (.cells #[.int .i64 e.k, .string e.s, .string e.t, .string e.r, .string e.v] 69)).alloc (.cells rec0 74)) := ((Below.refl _ w).alloc (Nat.le_refl _) _).alloc (by simp) _
  have P := hide (print_ok e.k e.s e.t e.r e.v ((w.alloc (.cells #[.int .i64 e.k, .string e.s, .string e.t, .string e.r, .string e.v] 69)).alloc (.cells rec0 74)) hr (hL.below bel hL.lt))
  rw [show (⟨e.k, e.s, e.t, e.r, e.v⟩ : Ev) = e from rfl] at P
  have E4 := hide (HasR.new (w.alloc (.cells #[.int .i64 e.k, .string e.s, .string e.t, .string e.r, .string e.v] 69)) 74 rec0)
  rw [World.size_alloc] at E4
  have hq := ptrF_nil fb
  have hne := nilNe
  obtain ⟨p, c, rfl⟩ := hF.slice
  have HF := hide hF
  have BL := hide bel
  have hfb := hF.row.lt
  have hl100 : (100 : Int) ≤ (rs.length : Int) := by omega
  have hl101 : (rs.length : Int) ≥ 100 := hl100
  generalize hTx : textB e = tx at P
  clear hF bel hL hTx hlen
  unfold rec0 at P E4 BL
  go_enter Tryz.func78, Tryz.ntmps78
  go_upto_region 7 with (go_at_call 75; (with_reducible refine P.out.mono ?_); rintro x w1 ⟨rfl, hb1⟩; have B1 := hide (BL.out.trans (hb1.mono BL.out.size)); have X4 := hide (E4.out.below hb1 E4.out.lt); have F1 := hide (HF.out.below (BL.out.trans (hb1.mono BL.out.size))); have f1 : w1.cell? ⟨fb, 1, none⟩ = some (.slice p rs.length c) := F1.out.row.cell 1; clear hb1)
  have d0 : w1.cell? ⟨w.heap.size + 1, 0, none⟩ = some (.int .i64 0) := X4.out.cell 0
  have d1 : w1.cell? ⟨w.heap.size + 1, 1, none⟩ = some (.string ⟨#[]⟩) := X4.out.cell 1
  have d2 : w1.cell? ⟨w.heap.size + 1, 2, none⟩ = some (.int .i64 0) := X4.out.cell 2
  have d3 : w1.cell? ⟨w.heap.size + 1, 3, none⟩ = some (.string ⟨#[]⟩) := X4.out.cell 3
  have d4 : w1.cell? ⟨w.heap.size + 1, 4, none⟩ = some (.string ⟨#[]⟩) := X4.out.cell 4
  have o0 : w1.frozen? ⟨w.heap.size + 1, 0, none⟩ = false := X4.out.free 0
  have o1 : w1.frozen? ⟨w.heap.size + 1, 1, none⟩ = false := X4.out.free 1
  have o2 : w1.frozen? ⟨w.heap.size + 1, 2, none⟩ = false := X4.out.free 2
  have o3 : w1.frozen? ⟨w.heap.size + 1, 3, none⟩ = false := X4.out.free 3
  have o4 : w1.frozen? ⟨w.heap.size + 1, 4, none⟩ = false := X4.out.free 4
  go_wp2
  have XF := HasR.five X4.out (.int .i64 0) (.string ⟨#[]⟩) (.int .i64 0) (.string ⟨#[]⟩) (.string ⟨#[]⟩)
  have TF := stir5 w1 (w.heap.size + 1) (.int .i64 0) (.string ⟨#[]⟩) (.int .i64 0) (.string ⟨#[]⟩) (.string ⟨#[]⟩)
  generalize ((((w1.setCell ⟨w.heap.size + 1, 0, none⟩ (.int .i64 0)).setCell ⟨w.heap.size + 1, 1, none⟩ (.string ⟨#[]⟩)).setCell ⟨w.heap.size + 1, 2, none⟩ (.int .i64 0)).setCell ⟨w.heap.size + 1, 3, none⟩ (.string ⟨#[]⟩)).setCell ⟨w.heap.size + 1, 4, none⟩ (.string ⟨#[]⟩) = wf at XF TF ⊢
  have z0 : wf.cell? ⟨w.heap.size + 1, 0, none⟩ = some (.int .i64 0) := XF.cell 0
  have z1 : wf.cell? ⟨w.heap.size + 1, 1, none⟩ = some (.string ⟨#[]⟩) := XF.cell 1
  have z2 : wf.cell? ⟨w.heap.size + 1, 2, none⟩ = some (.int .i64 0) := XF.cell 2
  have z3 : wf.cell? ⟨w.heap.size + 1, 3, none⟩ = some (.string ⟨#[]⟩) := XF.cell 3
  have z4 : wf.cell? ⟨w.heap.size + 1, 4, none⟩ = some (.string ⟨#[]⟩) := XF.cell 4
  refine bodyPost_ret (v := .tuple #[.agg #[.int .i64 0, .string ⟨#[]⟩, .int .i64 0, .string ⟨#[]⟩, .string ⟨#[]⟩], .iface 25 (.int .i64 12)]) (by simp [results, Tryz.results78, go_sem, z0, z1, z2, z3, z4]) rfl ⟨rfl, B1.out.trans (TF.below B1.out.size (fun j hj => by simp at hj; omega))⟩
/-- Why nothing happens: the row is another one's, or is not there; the feed is full; nobody of that name has a key. -/
def whyN (h : Hst) (e : Ev) : Nat := if refuseB h.τ e ≠ 0 then (refuseB h.τ e).toNat else if 100 ≤ h.rs.length then 12 else 8
theorem refuse_is (τ : Tab) (e : Ev) : refuseB τ e = 13 ∨ refuseB τ e = 7 ∨ refuseB τ e = 0 := by
  unfold refuseB
  split
  · exact .inl rfl
  · split
    · exact .inr (.inl rfl)
    · exact .inr (.inr rfl)
/-- What a source answers where nothing happens. -/
theorem do_why {B : Nat} {w : World} {sb fb vb : Nat} {mt mv : Option Nat} {v : Value} {nt nv : Nat} {sec : ByteArray} {h : Hst} (S : Src B w sb fb vb mt mv v nt nv sec h.σ h.τ h.rs) (e : Ev) (hr : rightB e = true) (hno : refuseB h.τ e ≠ 0 ∨ 100 ≤ h.rs.length ∨ (e.k = 3 ∧ (h.σ e.s.data.toList).2 = false)) (T : Tabs w) :
    Calls Tryz.prog 43 #[.pointer (some ⟨sb, 0, none⟩), .agg #[.int .i64 e.k, .string e.s, .string e.t, .string e.r, .string e.v]] w fun x w' => x = .returned (.tuple #[.agg #[.int .i64 0, .string ⟨#[]⟩, .int .i64 0, .string ⟨#[]⟩, .string ⟨#[]⟩], .iface 25 (.int .i64 ((whyN h e : Nat) : Int))]) ∧ Below w.heap.size w w' := by
  have he := brief_right hr
  by_cases h1 : refuseB h.τ e ≠ 0
  · have hw : ((whyN h e : Nat) : Int) = refuseB h.τ e := by
      unfold whyN
      rw [if_pos h1]
      rcases refuse_is h.τ e with q | q | q <;> rw [q] <;> rfl
    rw [hw]
    exact do_refused sb _ _ mt nt h.τ e w he S.tab h1
  · have h0 : refuseB h.τ e = 0 := by omega
    by_cases h2 : 100 ≤ h.rs.length
    · have hw : ((whyN h e : Nat) : Int) = 12 := by
        unfold whyN
        rw [if_neg h1, if_pos h2]
        rfl
      rw [hw]
      exact do_untold sb fb _ mt nt h.τ e 12 w he S.tab h0 (fun wx hb => tell_full wx fb vb v h.rs e (S.feed.below hb) hr h2 (T.below hb T.n).l)
    · have hw : ((whyN h e : Nat) : Int) = 8 := by
        unfold whyN
        rw [if_neg h1, if_neg h2]
        rfl
      rw [hw]
      have h3 : e.k = 3 ∧ (h.σ e.s.data.toList).2 = false := by
        rcases hno with q | q | q
        · exact absurd q h1
        · exact absurd q h2
        · exact q
      exact do_untold sb fb _ mt nt h.τ e 8 w he S.tab h0 (fun wx hb => tell_none wx fb vb v h.rs mv sec nv h.σ e (S.feed.below hb) (S.keys.below hb) hr h3.1 h3.2 S.fit (by omega) (T.below hb T.n).k (T.below hb T.n).l)
end Go.Proofs.YtdjpghgnjcmdnaaGreatDoor

/- The orders 'put', 'del', 'gone'. -/
namespace Go.Proofs.YtdjpghgnjcmdnaaGreatDoor
open Go.RowKit Go.Shelf Go.Sort Go.Maps
set_option linter.unusedSectionVars false
variable [Inhabited LowT]
variable [Inhabited Cl] [Inhabited Ev]
attribute [local go_sem ↓] Go.wp_at_zero Go.wp_at_succ
attribute [local go_sem ↓] run_add_few
theorem line_text (x : ByteArray) (xs : List ByteArray) : textL (lineL x xs) = x ++ ⟨#[32]⟩ ++ textL (Lib.join (xs.map (·.data.toList)) [32]) := by
  unfold lineL
  conv => rhs; rw [← textL_data x]
  rw [show (⟨#[32]⟩ : ByteArray) = textL [32] from rfl, textL_cat, textL_cat]
  congr 1
  simp
theorem line_len2 {x : ByteArray} {xs : List ByteArray} (h : ((x :: xs).map fun y => y.size + 1).sum ≤ 30001) : x.size + 1 + (Lib.join (xs.map (·.data.toList)) [32]).length ≤ 30001 := by
  have h1 := join_len xs
  simp only [List.map_cons, List.sum_cons] at h
  omega
theorem below_five {a w : World} {b : Nat} (h : Below a.heap.size a w) (hb : a.heap.size ≤ b) (v0 v1 v2 v3 v4 : Value) : Below a.heap.size a (((((w.setCell ⟨b, 0, none⟩ v0).setCell ⟨b, 1, none⟩ v1).setCell ⟨b, 2, none⟩ v2).setCell ⟨b, 3, none⟩ v3).setCell ⟨b, 4, none⟩ v4) :=
  h.trans ((stir5 w b v0 v1 v2 v3 v4).below h.size (fun j hj => by
    have e : j = b := by simpa using hj
    omega))
theorem below_step {a b c : World} (h : Below a.heap.size a b) (k : Below b.heap.size b c) : Below a.heap.size a c := h.trans (k.mono h.size)
theorem below_drew3 {a w : World} (h : Below a.heap.size a w) : Below a.heap.size a w.drew := h.drew
theorem stir_five {L : List Nat} {a w : World} {b : Nat} (h : Stirred L a w) (hb : a.heap.size ≤ b) (v0 v1 v2 v3 v4 : Value) : Stirred L a (((((w.setCell ⟨b, 0, none⟩ v0).setCell ⟨b, 1, none⟩ v1).setCell ⟨b, 2, none⟩ v2).setCell ⟨b, 3, none⟩ v3).setCell ⟨b, 4, none⟩ v4) :=
  h.andThen (stir5 w b v0 v1 v2 v3 v4) (fun j hj => by
    have e : j = b := by simpa using hj
    exact .inr (by omega))
/-- The desk behind an event that happened, and behind what the line makes of it in boxes of its own. -/
theorem happen_end {κ : Nat → Tag} {db : Nat} {s : DeskS} {wc wx w5 wf : World} {B ob sb fb vb : Nat} {mt mv mt' mv' : Option Nat} {v v' : Value} {rm : Nat} {ρ : Rho} {c3 c4 c5 c6 : Value} {ev : Ev} {L : List Nat} (D : DeskV κ db s wc B ob sb fb vb mt mv v rm ρ c3 c4 c5 c6) (hd : doesB s.h.σ s.h.τ ev = true) (hl : s.h.rs.length < 100) (h11 : lowK ≤ wc.heap.size) (hbx : Below wc.heap.size wc wx)
    (hS : Src B w5 sb fb vb mt' mv' v' (s.h.ok.length + 1) (s.h.ok.length + 1) s.sec (tellK s.h.σ ev) (app ev s.h.τ) (s.h.rs ++ [tellR s.sec s.h.σ s.h.rs ev])) (hN : ∀ j ∈ ownS sb fb vb mt' mv' v', j ∈ ownS sb fb vb mt mv v ∨ wx.heap.size ≤ j) (t5 : Stirred (ownS sb fb vb mt mv v) wx w5)
    (tf : Stirred L w5 wf) (hL : ∀ j ∈ L, (wc.heap.size ≤ j ∧ j < wx.heap.size) ∨ w5.heap.size ≤ j) : Desk db ⟨s.sec, hstep s.sec s.h ev, s.rd, s.kept, s.c⟩ wf ∧ Quiet wc wf ∧ Stirred (ownS sb fb vb mt mv v) wc wf := by
  have hx := hbx.size
  have h5 := t5.size
  have t : Stirred (ownS sb fb vb mt mv v) wc wf := ((Stirred.of_below hbx _).andThen t5 (fun j hj => .inl hj)).andThen tf (fun j hj => .inr (by rcases hL j hj with q | q <;> omega))
  have hSf : Src B wf sb fb vb mt' mv' v' (s.h.ok.length + 1) (s.h.ok.length + 1) s.sec (tellK s.h.σ ev) (app ev s.h.τ) (s.h.rs ++ [tellR s.sec s.h.σ s.h.rs ev]) := hS.turned tf (fun j hj hm => by
    have hlt := hS.oldO j hj
    rcases hN j hj with q | q
    · have hq := D.src.oldO j q
      rcases hL j hm with r | r <;> omega
    · rcases hL j hm with r | r <;> omega)
  have hg := D.good.step ev hl
  have eq := hstep_yes (sec := s.sec) hd
  refine ⟨?_, D.quiet t (fun j hj => .inl (.inr (.inr (.inl hj)))) h11, t⟩
  rw [eq] at hg ⊢
  have hlen : (s.h.ok ++ [ev]).length = s.h.ok.length + 1 := by simp
  obtain ⟨κ', h'⟩ := D.did (hs := ⟨tellK s.h.σ ev, app ev s.h.τ, s.h.rs ++ [tellR s.sec s.h.σ s.h.rs ev], s.h.ok ++ [ev]⟩) (by
    show Src B wf sb fb vb mt' mv' v' (s.h.ok ++ [ev]).length (s.h.ok ++ [ev]).length s.sec (tellK s.h.σ ev) (app ev s.h.τ) (s.h.rs ++ [tellR s.sec s.h.σ s.h.rs ev])
    rw [hlen]
    exact hSf) (fun j hj => (hN j hj).imp id (fun q => by omega)) t hg
  exact ⟨κ', B, ob, sb, fb, vb, mt', mv', v', rm, ρ, c3, c4, c5, c6, h'⟩
theorem desk_does {h : Hst} {e : Ev} (hr : rightB e = true) (hno : ¬ (refuseB h.τ e ≠ 0 ∨ 100 ≤ h.rs.length ∨ (e.k = 3 ∧ (h.σ e.s.data.toList).2 = false))) : doesB h.σ h.τ e = true ∧ h.rs.length < 100 := by
  have h1 : refuseB h.τ e = 0 := by omega
  have h2 : h.rs.length < 100 := by omega
  refine ⟨?_, h2⟩
  unfold doesB
  rw [hr, h1]
  by_cases hk : e.k = 3
  · cases hq : (h.σ e.s.data.toList).2
    · exact absurd (.inr (.inr ⟨hk, hq⟩)) hno
    · simp
  · simp [hk]
/-- Three words told behind. -/
theorem tell_three (x : ByteArray) (l1 l2 l3 : List UInt8) (w : World) (hx : x.size ≤ 30000) (h1 : l1.length ≤ 21) (h2 : l2.length ≤ 21) (h3 : l3.length ≤ 21) : Calls Tryz.prog 12 #[.string x, .slice (some ⟨w.heap.size, 0, none⟩) 3 3] (w.alloc (.cells #[.string (textL l1), .string (textL l2), .string (textL l3)] 9)) fun e w' => e = .returned (.string (textL (toldL x [textL l1, textL l2, textL l3]))) ∧ Below w.heap.size w w' := by
  have b1 : Below w.heap.size w (w.alloc (.cells #[.string (textL l1), .string (textL l2), .string (textL l3)] 9)) := (Below.refl _ w).alloc (Nat.le_refl _) _
  have X := HasR.new w 9 #[.string (textL l1), .string (textL l2), .string (textL l3)]
  have hP : Parts (w.alloc (.cells #[.string (textL l1), .string (textL l2), .string (textL l3)] 9)) (.slice (some ⟨w.heap.size, 0, none⟩) 3 3) [textL l1, textL l2, textL l3] := ⟨_, _, rfl, .inr ⟨w.heap.size, 0, rfl, X.lt, fun k hk => by
    have hk3 : k = 0 ∨ k = 1 ∨ k = 2 := by
      have : k < 3 := hk
      omega
    rcases hk3 with rfl | rfl | rfl
    · exact X.cell 0
    · exact X.cell 1
    · exact X.cell 2⟩⟩
  have hb : ∀ p ∈ [textL l1, textL l2, textL l3], p.size ≤ 21 := fun p hp => by
    simp only [List.mem_cons, List.not_mem_nil, or_false] at hp
    rcases hp with e | e | e <;> (rw [e]; assumption)
  exact (tell_any x _ _ _ hP (by simp) (told_fits hb hx (by simp))).mono fun _ _ ⟨he, hbb⟩ => ⟨he, b1.trans (hbb.mono b1.size)⟩
theorem told_three {x : ByteArray} {l1 l2 l3 : List UInt8} (hx : x.size ≤ 30000) (h1 : l1.length ≤ 21) (h2 : l2.length ≤ 21) (h3 : l3.length ≤ 21) : (toldL x [textL l1, textL l2, textL l3]).length ≤ 1000000000 := by
  have hb : ∀ p ∈ [textL l1, textL l2, textL l3], p.size ≤ 21 := fun p hp => by
    simp only [List.mem_cons, List.not_mem_nil, or_false] at hp
    rcases hp with e | e | e <;> (rw [e]; assumption)
  have := told_fits (x := x) hb hx (by simp)
  omega
theorem happ_form {s : DeskS} {x : ByteArray} {xs : List ByteArray} (h : accB (textL (lineL x xs)) (splitEv (textL (lineL x xs))) = false) : happR s x xs = .inl 3 := by
  unfold happR
  simp only
  rw [if_pos h]
theorem happ_why {s : DeskS} {x : ByteArray} {xs : List ByteArray} {t : ByteArray} {e : Ev} (h1 : textL (lineL x xs) = t) (h2 : splitEv t = e) (h3 : accB t (splitEv t) = true) (h4 : refuseB s.h.τ e ≠ 0 ∨ 100 ≤ s.h.rs.length ∨ (e.k = 3 ∧ (s.h.σ e.s.data.toList).2 = false)) : happR s x xs = .inl (whyN s.h e) := by
  unfold happR whyN
  simp only
  rw [h1, if_neg (by rw [h3]; simp), h2]
  split
  · rfl
  · rename_i a
    split
    · rfl
    · rename_i b
      rw [if_pos]
      rcases h4 with c | c | c
      · exact absurd c a
      · exact absurd c b
      · exact c
theorem happ_told {s : DeskS} {x : ByteArray} {xs : List ByteArray} {t : ByteArray} {e : Ev} {R : Rec} (h1 : textL (lineL x xs) = t) (h2 : splitEv t = e) (h3 : accB t (splitEv t) = true) (h4 : ¬ (refuseB s.h.τ e ≠ 0 ∨ 100 ≤ s.h.rs.length ∨ (e.k = 3 ∧ (s.h.σ e.s.data.toList).2 = false))) (h5 : tellR s.sec s.h.σ s.h.rs e = R) : happR s x xs = toldR x [itoaN R.q, itoaN R.g, itoaN R.d.size] ⟨s.sec, hstep s.sec s.h e, s.rd, s.kept, s.c⟩ := by
  unfold happR
  simp only
  rw [h1, if_neg (by rw [h3]; simp), h2, if_neg (fun a => h4 (.inl a)), if_neg (fun a => h4 (.inr (.inl a))), if_neg (fun a => h4 (.inr (.inr a))), h5]
set_option maxRecDepth 100000 in
set_option maxHeartbeats 4000000 in
theorem happen_yes (db : Nat) (s : DeskS) (w : World) (x : ByteArray) (v : Value) (xs : List ByteArray) (z : Int) (hD : Desk db s w) (hV : Vars w) (hP : LineW w v xs) (hsz : ((x :: xs).map fun y => y.size + 1).sum ≤ 30001) (HACC : accB (textL (lineL x xs)) (splitEv (textL (lineL x xs))) = true) (hno : ¬ (refuseB s.h.τ (splitEv (textL (lineL x xs))) ≠ 0 ∨ 100 ≤ s.h.rs.length ∨ ((splitEv (textL (lineL x xs))).k = 3 ∧ (s.h.σ (splitEv (textL (lineL x xs))).s.data.toList).2 = false))) :
    Calls Tryz.prog 15 #[.pointer (some ⟨db, 0, none⟩), .agg #[.string x, v, .int .i64 z]] w fun e w' => OutD db s 15 x xs z w e w' := by
  obtain ⟨κ, B, ob, sb, fb, vb, mt, mv, vf, rm, ρ, c3, c4, c5, c6, h⟩ := hD
  obtain ⟨hP1, p, cp, rfl, hcp⟩ := hP
  have hx := (size_words hsz).1
  have X0 := hide (HasR.new w 65 #[.string x, .slice p xs.length cp, .int .i64 z])
  have B0 := hide ((Below.refl w.heap.size w).alloc (Nat.le_refl _) (.cells #[.string x, .slice p xs.length cp, .int .i64 z] 65))
  obtain ⟨W, hW⟩ : ∃ W, w.alloc (.cells #[.string x, .slice p xs.length cp, .int .i64 z] 65) = W := ⟨_, rfl⟩
  rw [hW] at X0 B0
  have HW := hide hW
  have HD := hide (h.still B0.out)
  have h11 := hV.n
  have _hk11 := lowK_le
  have HV := hide (hV.low (B0.out.mono h11) B0.out.size)
  have hlS : s.h.ok.length ≤ 100 := h.good.len
  have hrl : s.h.rs.length = s.h.ok.length := h.good.did.both
  have VB : Hid (∀ wx, Below W.heap.size W wx → Vars wx) := hide fun wx hb => HV.out.low (hb.mono HV.out.n) hb.size
  have KB : Hid (∀ wx, Below W.heap.size W wx → wx.cell? ⟨w.heap.size, 0, none⟩ = some (.string x) ∧ wx.cell? ⟨w.heap.size, 1, none⟩ = some (.slice p xs.length cp) ∧ wx.cell? ⟨w.heap.size, 2, none⟩ = some (.int .i64 z) ∧ wx.cell? ⟨db, 1, none⟩ = some (.pointer (some ⟨sb, 0, none⟩))) := hide fun wx hb =>
    have X := X0.out.below hb X0.out.lt
    ⟨X.cell 0, X.cell 1, X.cell 2, (HD.out.still hb).desk.cell 1⟩
  obtain ⟨k0, k1, k2, k3⟩ := KB.out W (Below.refl _ _)
  have HH := hide h
  have HP := hide hP1
  have LW : Hid (Parts W (.slice p xs.length cp) xs) := hide (hP1.below B0.out rfl)
  clear h hW hP1
  have hjl := line_len hsz
  have hxl := len_words hsz
  have C38 : Hid (∀ wx, Below W.heap.size W wx → Calls Tryz.prog 38 #[.slice p xs.length cp, .string ⟨#[32]⟩] wx fun e w' => e = .returned (.string (textL (Lib.join (xs.map (·.data.toList)) [32]))) ∧ Below wx.heap.size wx w') := hide (fun wx hb => join_words (LW.out.below hb rfl) hcp (by omega) (by omega))
  have LT := hide (fun _ : Unit => line_text x xs)
  have f4 : Few2 (textL (Lib.join (xs.map (·.data.toList)) [32])) := by
    unfold Few2
    rw [show (textL (Lib.join (xs.map (·.data.toList)) [32])).size = (Lib.join (xs.map (·.data.toList)) [32]).length from rfl]
    omega
  have hjs : x.size + 1 + (textL (Lib.join (xs.map (·.data.toList)) [32])).size ≤ 30001 := line_len2 hsz
  generalize textL (Lib.join (xs.map (·.data.toList)) [32]) = jb at C38 LT f4 hjs
  have f1 : Few2 x := by unfold Few2; omega
  have f2 : Few2 ⟨#[32]⟩ := by unfold Few2; decide
  have hx1 : (x ++ (⟨#[32]⟩ : ByteArray)).size = x.size + 1 := by rw [ByteArray.size_append]; rfl
  have f3 : Few2 (x ++ ⟨#[32]⟩) := by unfold Few2; omega
  have hts : (x ++ ⟨#[32]⟩ ++ jb).size ≤ 40000 := by
    rw [ByteArray.size_append]
    have h32 : (⟨#[32]⟩ : ByteArray).size = 1 := rfl
    first
      | omega
      | (rw [ByteArray.size_append]; omega)
  rw [LT.out ()] at HACC
  clear hsz hjl hx1
  obtain ⟨tB, htB⟩ : ∃ tB, x ++ ⟨#[32]⟩ ++ jb = tB := ⟨_, rfl⟩
  rw [LT.out ()] at hno
  rw [htB] at HACC hts LT hno
  have hacc : accB tB (splitEv tB) = true := HACC
  have hright := (acc_of hacc).1
  have C41 := hide (fun wx (hb : Below W.heap.size W wx) => parse_okW tB wx hts hacc (VB.out wx hb).l (VB.out wx hb).m)
  obtain ⟨ev, hev⟩ : ∃ ev, splitEv tB = ev := ⟨_, rfl⟩
  have HEV := hide (fun _ : Unit => hev)
  rw [hev] at C41 hright hno
  have HACC2 := hide (fun _ : Unit => hacc)
  rw [← htB] at C41
  clear htB
  clear hev hacc HACC hts hjs
  have HRT := hide hright
  clear hright
  have C40 := hide (fun wx => must40_ok ev.k ev.s ev.t ev.r ev.v wx)
  go_enter Tryz.func15, Tryz.ntmps15
  go_upto_region 1 with fail
  rw [HW.out]
  have hl0 := X0.out.lt
  go_cut [5] (fun s5 wx => ∃ be : Nat, s5 = .pointer (some ⟨be, 0, none⟩) ∧ W.heap.size ≤ be ∧ HasR wx be 69 #[.int .i64 ev.k, .string ev.s, .string ev.t, .string ev.r, .string ev.v] ∧ Below W.heap.size W wx)
  case first =>
    go_region_held3 (fun wx => wx.cell? ⟨w.heap.size, 0, none⟩ = some (.string x) ∧ wx.cell? ⟨w.heap.size, 1, none⟩ = some (.slice p xs.length cp) ∧ wx.cell? ⟨w.heap.size, 2, none⟩ = some (.int .i64 z) ∧ wx.cell? ⟨db, 1, none⟩ = some (.pointer (some ⟨sb, 0, none⟩))) ((refine KB.out _ ?_; first | (with_reducible exact (Below.refl _ _).drew) | (with_reducible exact ((Below.refl _ _).alloc (Nat.le_refl _) _).drew) | (with_reducible exact B2.out) | (with_reducible exact B3.out) | (with_reducible exact B4.out) | (with_reducible exact B2.out.alloc B2.out.size _) | (with_reducible exact B3.out.alloc B3.out.size _) | (with_reducible exact B4.out.alloc B4.out.size _) | (with_reducible exact below_five B4.out (Nat.le_refl _) _ _ _ _ _) | (with_reducible exact below_five B4.out hs2 _ _ _ _ _) | (with_reducible exact below_five B4.out hs3 _ _ _ _ _)))
      (first
      | (go_at_call 38; (with_reducible refine (C38.out (W.alloc (.cells #[.int .i64 0, .string ⟨#[]⟩, .string ⟨#[]⟩, .string ⟨#[]⟩, .string ⟨#[]⟩] 69)).drew ((Below.refl _ W).alloc (Nat.le_refl _) _).drew).mono ?_); rintro y w2 ⟨rfl, hb2⟩; have B2 : Hid (Below W.heap.size W w2) := hide (below_step ((Below.refl _ W).alloc (Nat.le_refl _) _).drew hb2); have XA := hide ((HasR.new W 69 #[.int .i64 0, .string ⟨#[]⟩, .string ⟨#[]⟩, .string ⟨#[]⟩, .string ⟨#[]⟩]).drew.below hb2 (HasR.new W 69 _).drew.lt); have hs2 := B2.out.size; clear hb2)
      | (go_at_call 38; (with_reducible refine (C38.out W.drew (Below.refl _ W).drew).mono ?_); rintro y w2 ⟨rfl, hb2⟩; have B2 : Hid (Below W.heap.size W w2) := hide (below_step (Below.refl _ W).drew hb2); have hs2 := B2.out.size; clear hb2)
      | (go_at_call 41; (with_reducible refine (C41.out w2 B2.out).mono ?_); rintro y w3 ⟨rfl, hb3⟩; have B3 : Hid (Below W.heap.size W w3) := hide (below_step B2.out hb3); have XB := hide (XA.out.below hb3 XA.out.lt); have hs3 := B3.out.size; clear hb3)
      | (go_at_call 41; (with_reducible refine (C41.out w2 B2.out).mono ?_); rintro y w3 ⟨rfl, hb3⟩; have B3 : Hid (Below W.heap.size W w3) := hide (below_step B2.out hb3); have hs3 := B3.out.size; clear hb3)
      | (go_at_call 41; (with_reducible refine (C41.out (w2.alloc (.cells #[.int .i64 0, .string ⟨#[]⟩, .string ⟨#[]⟩, .string ⟨#[]⟩, .string ⟨#[]⟩] 69)) (B2.out.alloc B2.out.size _)).mono ?_); rintro y w3 ⟨rfl, hb3⟩; have B3 : Hid (Below W.heap.size W w3) := hide (below_step (B2.out.alloc B2.out.size _) hb3); have XC := hide ((HasR.new w2 69 #[.int .i64 0, .string ⟨#[]⟩, .string ⟨#[]⟩, .string ⟨#[]⟩, .string ⟨#[]⟩]).below hb3 (HasR.new w2 69 _).lt); have hs3 := B3.out.size; clear hb3)
      | (go_at_call 40; (with_reducible refine (C40.out w3).mono ?_); rintro y w4 ⟨rfl, hb4⟩; have B4 : Hid (Below W.heap.size W w4) := hide (below_step B3.out hb4); have XD := hide (XB.out.below hb4 XB.out.lt); have z0 : w4.cell? ⟨W.heap.size, 0, none⟩ = some (.int .i64 0) := XD.out.cell 0; have z1 : w4.cell? ⟨W.heap.size, 1, none⟩ = some (.string ⟨#[]⟩) := XD.out.cell 1; have z2 : w4.cell? ⟨W.heap.size, 2, none⟩ = some (.string ⟨#[]⟩) := XD.out.cell 2; have z3 : w4.cell? ⟨W.heap.size, 3, none⟩ = some (.string ⟨#[]⟩) := XD.out.cell 3; have z4 : w4.cell? ⟨W.heap.size, 4, none⟩ = some (.string ⟨#[]⟩) := XD.out.cell 4; have o0 : w4.frozen? ⟨W.heap.size, 0, none⟩ = false := XD.out.free 0; have o1 : w4.frozen? ⟨W.heap.size, 1, none⟩ = false := XD.out.free 1; have o2 : w4.frozen? ⟨W.heap.size, 2, none⟩ = false := XD.out.free 2; have o3 : w4.frozen? ⟨W.heap.size, 3, none⟩ = false := XD.out.free 3; have o4 : w4.frozen? ⟨W.heap.size, 4, none⟩ = false := XD.out.free 4; clear hb4)
      | (go_at_call 40; (with_reducible refine (C40.out w3).mono ?_); rintro y w4 ⟨rfl, hb4⟩; have B4 : Hid (Below W.heap.size W w4) := hide (below_step B3.out hb4); have XE := hide (XC.out.below hb4 XC.out.lt); have z0 : w4.cell? ⟨w2.heap.size, 0, none⟩ = some (.int .i64 0) := XE.out.cell 0; have z1 : w4.cell? ⟨w2.heap.size, 1, none⟩ = some (.string ⟨#[]⟩) := XE.out.cell 1; have z2 : w4.cell? ⟨w2.heap.size, 2, none⟩ = some (.string ⟨#[]⟩) := XE.out.cell 2; have z3 : w4.cell? ⟨w2.heap.size, 3, none⟩ = some (.string ⟨#[]⟩) := XE.out.cell 3; have z4 : w4.cell? ⟨w2.heap.size, 4, none⟩ = some (.string ⟨#[]⟩) := XE.out.cell 4; have o0 : w4.frozen? ⟨w2.heap.size, 0, none⟩ = false := XE.out.free 0; have o1 : w4.frozen? ⟨w2.heap.size, 1, none⟩ = false := XE.out.free 1; have o2 : w4.frozen? ⟨w2.heap.size, 2, none⟩ = false := XE.out.free 2; have o3 : w4.frozen? ⟨w2.heap.size, 3, none⟩ = false := XE.out.free 3; have o4 : w4.frozen? ⟨w2.heap.size, 4, none⟩ = false := XE.out.free 4; clear hb4)
      | (go_at_call 40; (with_reducible refine (C40.out w3).mono ?_); rintro y w4 ⟨rfl, hb4⟩; have B4 : Hid (Below W.heap.size W w4) := hide (below_step B3.out hb4); have hs4 := B4.out.size; clear hb4)
      | (go_at_call 40; (with_reducible refine (C40.out (w3.alloc (.cells #[.int .i64 0, .string ⟨#[]⟩, .string ⟨#[]⟩, .string ⟨#[]⟩, .string ⟨#[]⟩] 69))).mono ?_); rintro y w4 ⟨rfl, hb4⟩; have B4 : Hid (Below W.heap.size W w4) := hide (below_step (B3.out.alloc B3.out.size _) hb4); have XF := hide ((HasR.new w3 69 #[.int .i64 0, .string ⟨#[]⟩, .string ⟨#[]⟩, .string ⟨#[]⟩, .string ⟨#[]⟩]).below hb4 (HasR.new w3 69 _).lt); have z0 : w4.cell? ⟨w3.heap.size, 0, none⟩ = some (.int .i64 0) := XF.out.cell 0; have z1 : w4.cell? ⟨w3.heap.size, 1, none⟩ = some (.string ⟨#[]⟩) := XF.out.cell 1; have z2 : w4.cell? ⟨w3.heap.size, 2, none⟩ = some (.string ⟨#[]⟩) := XF.out.cell 2; have z3 : w4.cell? ⟨w3.heap.size, 3, none⟩ = some (.string ⟨#[]⟩) := XF.out.cell 3; have z4 : w4.cell? ⟨w3.heap.size, 4, none⟩ = some (.string ⟨#[]⟩) := XF.out.cell 4; have o0 : w4.frozen? ⟨w3.heap.size, 0, none⟩ = false := XF.out.free 0; have o1 : w4.frozen? ⟨w3.heap.size, 1, none⟩ = false := XF.out.free 1; have o2 : w4.frozen? ⟨w3.heap.size, 2, none⟩ = false := XF.out.free 2; have o3 : w4.frozen? ⟨w3.heap.size, 3, none⟩ = false := XF.out.free 3; have o4 : w4.frozen? ⟨w3.heap.size, 4, none⟩ = false := XF.out.free 4; clear hb4))
    all_goals
      go_wp2
      go_meet
      first
        | exact ⟨W.heap.size, rfl, Nat.le_refl _, HasR.five XD.out _ _ _ _ _, below_five B4.out (Nat.le_refl _) _ _ _ _ _⟩
        | exact ⟨w2.heap.size, rfl, hs2, HasR.five XE.out _ _ _ _ _, below_five B4.out hs2 _ _ _ _ _⟩
        | exact ⟨w3.heap.size, rfl, hs3, HasR.five XF.out _ _ _ _ _, below_five B4.out hs3 _ _ _ _ _⟩
        | exact ⟨w4.heap.size, rfl, B4.out.size, HasR.new w4 69 _, B4.out.alloc B4.out.size _⟩
  case rest =>
    obtain ⟨be, rfl, hbe, hXE, hB⟩ := hcut
    have XV := hide hXE
    have BC := hide hB
    have hsc := hB.size
    have DC := hide (HD.out.still hB)
    have VC := hide (VB.out wc hB)
    have nBE : Hid (be ∉ ownS sb fb vb mt mv vf) := hide (fun hm => by
      have := HD.out.src.oldO be hm
      omega)
    have lbe := hXE.lt
    have XXC := hide (X0.out.below hB X0.out.lt)
    clear hXE hB k0 k1 k2 k3 C38 C41 C40 f1 f2 f3 f4
    have nDB : Hid (db ∉ ownS sb fb vb mt mv vf) := hide (fun hm => by
      have h1 := HD.out.kS db hm
      rw [HD.out.kD] at h1
      cases h1)
    have KB2 : Hid (∀ wx, Stirred (ownS sb fb vb mt mv vf) wc wx → wx.cell? ⟨db, 1, none⟩ = some (.pointer (some ⟨sb, 0, none⟩)) ∧ wx.cell? ⟨be, 0, none⟩ = some (.int .i64 ev.k) ∧ wx.cell? ⟨be, 1, none⟩ = some (.string ev.s) ∧ wx.cell? ⟨be, 2, none⟩ = some (.string ev.t) ∧ wx.cell? ⟨be, 3, none⟩ = some (.string ev.r) ∧ wx.cell? ⟨be, 4, none⟩ = some (.string ev.v)) := hide (fun wx t =>
      have Y := XV.out.turned t nBE.out
      ⟨(DC.out.desk.turned t nDB.out).cell 1, Y.cell 0, Y.cell 1, Y.cell 2, Y.cell 3, Y.cell 4⟩)
    obtain ⟨hdo, hlt100⟩ := desk_does HRT.out hno
    obtain ⟨R, hR⟩ : ∃ R, tellR s.sec s.h.σ s.h.rs ev = R := ⟨_, rfl⟩
    have HR := hide (fun _ : Unit => hR)
    have hbrief := brief_right HRT.out
    have h16 := HD.out.good.sec
    have CDo : Hid (∀ wx, Below wc.heap.size wc wx → Calls Tryz.prog 43 #[.pointer (some ⟨sb, 0, none⟩), .agg #[.int .i64 ev.k, .string ev.s, .string ev.t, .string ev.r, .string ev.v]] wx fun y w' => y = .returned (.tuple #[.agg #[.int .i64 (R.q : Int), .string R.s, .int .i64 (R.g : Int), .string R.p, .string R.d], .nilIface]) ∧ (∃ mt' m v', Src B w' sb fb vb mt' (some m) v' (s.h.ok.length + 1) (s.h.ok.length + 1) s.sec (tellK s.h.σ ev) (app ev s.h.τ) (s.h.rs ++ [tellR s.sec s.h.σ s.h.rs ev]) ∧ ∀ j ∈ ownS sb fb vb mt' (some m) v', j ∈ ownS sb fb vb mt mv vf ∨ wx.heap.size ≤ j) ∧ Stirred (ownS sb fb vb mt mv vf) wx w') := hide (fun wx hb =>
      (do_yes B wx sb fb vb mt mv vf s.h.ok.length s.h.ok.length s.sec s.h.σ s.h.τ s.h.rs ev (DC.out.src.still hb) hbrief (by omega) hlt100 (by omega) (by omega) (VC.out.tabs.below hb VC.out.tabs.n) (by have := HD.out.lowB; omega) hdo).mono (fun y w' h => by
        obtain ⟨R', h1, h2, ⟨mt', m, v', h3, h4⟩, h5, _⟩ := h
        rw [h1] at h3
        rw [hR] at h1
        rw [h1] at h2
        exact ⟨h2, ⟨mt', m, v', h3, h4⟩, h5⟩))
    have HEND : Hid (∀ (wx w5 wf : World) (mt' mv' : Option Nat) (v' : Value) (L : List Nat), Below wc.heap.size wc wx → Src B w5 sb fb vb mt' mv' v' (s.h.ok.length + 1) (s.h.ok.length + 1) s.sec (tellK s.h.σ ev) (app ev s.h.τ) (s.h.rs ++ [tellR s.sec s.h.σ s.h.rs ev]) → (∀ j ∈ ownS sb fb vb mt' mv' v', j ∈ ownS sb fb vb mt mv vf ∨ wx.heap.size ≤ j) → Stirred (ownS sb fb vb mt mv vf) wx w5 → Stirred L w5 wf → (∀ j ∈ L, (wc.heap.size ≤ j ∧ j < wx.heap.size) ∨ w5.heap.size ≤ j) → Desk db ⟨s.sec, hstep s.sec s.h ev, s.rd, s.kept, s.c⟩ wf ∧ Quiet wc wf ∧ Stirred (ownS sb fb vb mt mv vf) wc wf) := hide (fun wx w5 wf mt' mv' v' L a b c d e f => happen_end DC.out hdo hlt100 VC.out.n a b c d e f)
    have nXB : Hid (w.heap.size ∉ ownS sb fb vb mt mv vf) := hide (fun hm => by
      have := HH.out.src.oldO _ hm
      omega)
    have hRfit : R.q ≤ 1000000 ∧ R.g ≤ 1000000 ∧ R.d.size ≤ 1000 := by
      have hf := tell_fit (sec := s.sec) HRT.out hlt100 HD.out.src.few (by omega) HD.out.src.fit (tellR s.sec s.h.σ s.h.rs ev) (List.mem_append_right _ (List.mem_singleton.2 rfl))
      rw [hR] at hf
      exact ⟨Nat.le_of_lt hf.q, Nat.le_of_lt hf.g, hf.d⟩
    obtain ⟨rq, rg, rdz⟩ := hRfit
    obtain ⟨u0, u1, u2, u3, u4, u5⟩ := KB2.out wc (Stirred.refl _ _)
    have C42 := hide (fun wx => must42_ok (R.q : Int) R.s (R.g : Int) R.p R.d wx)
    have nOWN : Hid (∀ j, wc.heap.size ≤ j → j ∉ ownS sb fb vb mt mv vf) := hide (fun j hj hm => by
      have := DC.out.src.oldO j hm
      omega)
    have HHR := hide (fun _ : Unit => happ_told (LT.out ()) (HEV.out ()) (HACC2.out ()) hno hR)
    clear hR hdo hbrief hno
    go_upto_region 2 with fail
    go_cut [6] (fun s6 wx => ∃ bR : Nat, s6 = .pointer (some ⟨bR, 0, none⟩) ∧ HasR wx bR 74 #[.int .i64 (R.q : Int), .string R.s, .int .i64 (R.g : Int), .string R.p, .string R.d] ∧ HasR wx w.heap.size 65 #[.string x, .slice p xs.length cp, .int .i64 z] ∧ Desk db ⟨s.sec, hstep s.sec s.h ev, s.rd, s.kept, s.c⟩ wx ∧ Quiet wc wx)
    case first =>
      go_region_held3 (fun wx => wx.cell? ⟨db, 1, none⟩ = some (.pointer (some ⟨sb, 0, none⟩)) ∧ wx.cell? ⟨be, 0, none⟩ = some (.int .i64 ev.k) ∧ wx.cell? ⟨be, 1, none⟩ = some (.string ev.s) ∧ wx.cell? ⟨be, 2, none⟩ = some (.string ev.t) ∧ wx.cell? ⟨be, 3, none⟩ = some (.string ev.r) ∧ wx.cell? ⟨be, 4, none⟩ = some (.string ev.v)) ((refine KB2.out _ ?_; first | (with_reducible exact Stirred.of_below (Below.refl _ _).drew _) | (with_reducible exact Stirred.of_below ((Below.refl _ _).alloc (Nat.le_refl _) _).drew _) | (with_reducible exact T5.out) | (with_reducible exact T6.out) | (with_reducible exact T5.out.then_below ((Below.refl _ _).alloc (Nat.le_refl _) _)) | (with_reducible exact T6.out.then_below ((Below.refl _ _).alloc (Nat.le_refl _) _)) | (with_reducible exact stir_five T6.out (Nat.le_refl _) _ _ _ _ _) | (with_reducible exact stir_five T6.out hs5 _ _ _ _ _)))
        (first
        | (go_at_call 43; (with_reducible refine (CDo.out (wc.alloc (.cells #[.int .i64 0, .string ⟨#[]⟩, .int .i64 0, .string ⟨#[]⟩, .string ⟨#[]⟩] 74)).drew ((Below.refl _ wc).alloc (Nat.le_refl _) _).drew).mono ?_); rintro y w5 ⟨rfl, ⟨mt', m', v', hS5, hN5⟩, t5⟩; have T5 : Hid (Stirred (ownS sb fb vb mt mv vf) wc w5) := hide ((Stirred.of_below ((Below.refl _ wc).alloc (Nat.le_refl _) _).drew _).andThen t5 (fun j hj => .inl hj)); have XA := hide ((HasR.new wc 74 #[.int .i64 0, .string ⟨#[]⟩, .int .i64 0, .string ⟨#[]⟩, .string ⟨#[]⟩]).drew.turned t5 (nOWN.out _ (Nat.le_refl _))); have SA := hide (And.intro hS5 (And.intro hN5 t5)); have hs5 := T5.out.size; clear hS5 hN5 t5)
        | (go_at_call 43; (with_reducible refine (CDo.out wc.drew (Below.refl _ wc).drew).mono ?_); rintro y w5 ⟨rfl, ⟨mt', m', v', hS5, hN5⟩, t5⟩; have T5 : Hid (Stirred (ownS sb fb vb mt mv vf) wc w5) := hide ((Stirred.of_below (Below.refl _ wc).drew _).andThen t5 (fun j hj => .inl hj)); have SB := hide (And.intro hS5 (And.intro hN5 t5)); have hs5 := T5.out.size; clear hS5 hN5 t5)
        | (go_at_call 42; (with_reducible refine (C42.out w5).mono ?_); rintro y w6 ⟨rfl, hb6⟩; have T6 := hide (T5.out.then_below hb6); have XC := hide (XA.out.below hb6 XA.out.lt); have z0 : w6.cell? ⟨wc.heap.size, 0, none⟩ = some (.int .i64 0) := XC.out.cell 0; have z1 : w6.cell? ⟨wc.heap.size, 1, none⟩ = some (.string ⟨#[]⟩) := XC.out.cell 1; have z2 : w6.cell? ⟨wc.heap.size, 2, none⟩ = some (.int .i64 0) := XC.out.cell 2; have z3 : w6.cell? ⟨wc.heap.size, 3, none⟩ = some (.string ⟨#[]⟩) := XC.out.cell 3; have z4 : w6.cell? ⟨wc.heap.size, 4, none⟩ = some (.string ⟨#[]⟩) := XC.out.cell 4; have o0 : w6.frozen? ⟨wc.heap.size, 0, none⟩ = false := XC.out.free 0; have o1 : w6.frozen? ⟨wc.heap.size, 1, none⟩ = false := XC.out.free 1; have o2 : w6.frozen? ⟨wc.heap.size, 2, none⟩ = false := XC.out.free 2; have o3 : w6.frozen? ⟨wc.heap.size, 3, none⟩ = false := XC.out.free 3; have o4 : w6.frozen? ⟨wc.heap.size, 4, none⟩ = false := XC.out.free 4; have HB6 := hide hb6; clear hb6)
        | (go_at_call 42; (with_reducible refine (C42.out w5).mono ?_); rintro y w6 ⟨rfl, hb6⟩; have T6 := hide (T5.out.then_below hb6); have HB6 := hide hb6; have hs6 := hb6.size; clear hb6)
        | (go_at_call 42; (with_reducible refine (C42.out (w5.alloc (.cells #[.int .i64 0, .string ⟨#[]⟩, .int .i64 0, .string ⟨#[]⟩, .string ⟨#[]⟩] 74))).mono ?_); rintro y w6 ⟨rfl, hb6⟩; have HB6 := hide (below_step ((Below.refl _ w5).alloc (Nat.le_refl _) _) hb6); have T6 := hide (T5.out.then_below HB6.out); have XD := hide ((HasR.new w5 74 #[.int .i64 0, .string ⟨#[]⟩, .int .i64 0, .string ⟨#[]⟩, .string ⟨#[]⟩]).below hb6 (HasR.new w5 74 _).lt); have z0 : w6.cell? ⟨w5.heap.size, 0, none⟩ = some (.int .i64 0) := XD.out.cell 0; have z1 : w6.cell? ⟨w5.heap.size, 1, none⟩ = some (.string ⟨#[]⟩) := XD.out.cell 1; have z2 : w6.cell? ⟨w5.heap.size, 2, none⟩ = some (.int .i64 0) := XD.out.cell 2; have z3 : w6.cell? ⟨w5.heap.size, 3, none⟩ = some (.string ⟨#[]⟩) := XD.out.cell 3; have z4 : w6.cell? ⟨w5.heap.size, 4, none⟩ = some (.string ⟨#[]⟩) := XD.out.cell 4; have o0 : w6.frozen? ⟨w5.heap.size, 0, none⟩ = false := XD.out.free 0; have o1 : w6.frozen? ⟨w5.heap.size, 1, none⟩ = false := XD.out.free 1; have o2 : w6.frozen? ⟨w5.heap.size, 2, none⟩ = false := XD.out.free 2; have o3 : w6.frozen? ⟨w5.heap.size, 3, none⟩ = false := XD.out.free 3; have o4 : w6.frozen? ⟨w5.heap.size, 4, none⟩ = false := XD.out.free 4; clear hb6))
      all_goals
        go_wp2
        go_meet
        first
          | (have E := HEND.out _ _ _ _ _ _ [wc.heap.size] ((Below.refl _ wc).alloc (Nat.le_refl _) (.cells #[.int .i64 0, .string ⟨#[]⟩, .int .i64 0, .string ⟨#[]⟩, .string ⟨#[]⟩] 74)).drew SA.out.1 SA.out.2.1 SA.out.2.2 ((Stirred.of_below HB6.out _).andThen (stir5 w6 wc.heap.size (.int .i64 (R.q : Int)) (.string R.s) (.int .i64 (R.g : Int)) (.string R.p) (.string R.d)) (fun j hj => .inl hj)) (fun j hj => .inl (by have e : j = wc.heap.size := (by simpa using hj); rw [e]; simp)); exact ⟨wc.heap.size, rfl, HasR.five XC.out _ _ _ _ _, XXC.out.turned E.2.2 nXB.out, E.1, E.2.1⟩)
          | (have E := HEND.out _ _ _ _ _ _ [w5.heap.size] (Below.refl _ wc).drew SB.out.1 SB.out.2.1 SB.out.2.2 ((Stirred.of_below HB6.out _).andThen (stir5 w6 w5.heap.size (.int .i64 (R.q : Int)) (.string R.s) (.int .i64 (R.g : Int)) (.string R.p) (.string R.d)) (fun j hj => .inl hj)) (fun j hj => .inr (by have e : j = w5.heap.size := (by simpa using hj); rw [e]; exact Nat.le_refl _)); exact ⟨w5.heap.size, rfl, HasR.five XD.out _ _ _ _ _, XXC.out.turned E.2.2 nXB.out, E.1, E.2.1⟩)
          | (have E := HEND.out _ _ (w6.alloc (.cells #[.int .i64 (R.q : Int), .string R.s, .int .i64 (R.g : Int), .string R.p, .string R.d] 74)) _ _ _ [] (Below.refl _ wc).drew SB.out.1 SB.out.2.1 SB.out.2.2 (Stirred.of_below (HB6.out.alloc HB6.out.size _) _) (fun j hj => by cases hj); exact ⟨w6.heap.size, rfl, HasR.new w6 74 _, XXC.out.turned E.2.2 nXB.out, E.1, E.2.1⟩)
    case rest =>
      obtain ⟨bR, rfl, hXR, hXX, hDf, hQf⟩ := hcut
      have QB := hide ((Quiet.of_below B0.out h11).trans ((Quiet.of_below BC.out HV.out.n).trans hQf))
      have VF := hide (VC.out.low hQf.low hQf.size)
      clear HEND CDo KB2 C42 XV DC VC BC nBE nDB nXB nOWN XXC u0 u1 u2 u3 u4 u5 hbe hsc lbe hQf
      have KB3 : Hid (∀ wx, Below wc.heap.size wc wx → wx.cell? ⟨w.heap.size, 0, none⟩ = some (.string x) ∧ wx.cell? ⟨bR, 0, none⟩ = some (.int .i64 (R.q : Int)) ∧ wx.cell? ⟨bR, 2, none⟩ = some (.int .i64 (R.g : Int)) ∧ wx.cell? ⟨bR, 4, none⟩ = some (.string R.d)) := hide (fun wx hb =>
        have Y := hXR.below hb hXR.lt
        ⟨(hXX.below hb hXX.lt).cell 0, Y.cell 0, Y.cell 2, Y.cell 4⟩)
      obtain ⟨u0, u1, u2, u3⟩ := KB3.out wc (Below.refl _ _)
      have HDF := hide hDf
      have PB : Hid (∀ wx, Below wc.heap.size wc wx → Pow wx) := hide (fun wx hb => VF.out.p.below hb (Nat.lt_of_lt_of_le (by omega) VF.out.n))
      have CQ := hide (fun wx (hb : Below wc.heap.size wc wx) => itoaN_any R.q (by omega) wx (PB.out wx hb))
      have CG := hide (fun wx (hb : Below wc.heap.size wc wx) => itoaN_any R.g (by omega) wx (PB.out wx hb))
      have CZ := hide (fun wx (hb : Below wc.heap.size wc wx) => itoaN_any R.d.size (by omega) wx (PB.out wx hb))
      have lq := itoaN_le R.q (by omega)
      have lg := itoaN_le R.g (by omega)
      have lz := itoaN_le R.d.size (by omega)
      have C12 := hide (fun wx => tell_three x (itoaN R.q) (itoaN R.g) (itoaN R.d.size) wx hx lq lg lz)
      have HT3 := hide (told_three hx lq lg lz)
      have hdz : (R.d.size : Int) ≤ 9223372036854775807 := by omega
      generalize itoaN R.q = tq at CQ C12 HT3 HHR
      generalize itoaN R.g = tg at CG C12 HT3 HHR
      generalize itoaN R.d.size = tz at CZ C12 HT3 HHR
      go_upto_region 3 with fail
      go_region_held3 (fun wx => wx.cell? ⟨w.heap.size, 0, none⟩ = some (.string x) ∧ wx.cell? ⟨bR, 0, none⟩ = some (.int .i64 (R.q : Int)) ∧ wx.cell? ⟨bR, 2, none⟩ = some (.int .i64 (R.g : Int)) ∧ wx.cell? ⟨bR, 4, none⟩ = some (.string R.d)) ((refine KB3.out _ ?_; first | (with_reducible exact (Below.refl _ _).drew) | (with_reducible exact BL.out) | (with_reducible exact Bq.out) | (with_reducible exact Bg.out) | (with_reducible exact Bz.out) | (with_reducible exact Bq.out.alloc Bq.out.size _) | (with_reducible exact Bg.out.alloc Bg.out.size _) | (with_reducible exact Bz.out.alloc Bz.out.size _)))
        (first
        | (go_at_call 13; (with_reducible refine (CQ.out _ ?_).mono ?_); (first | (with_reducible exact (Below.refl _ _).drew) | (with_reducible exact Bq.out) | (with_reducible exact Bg.out) | (with_reducible exact Bz.out)); rintro y wq ⟨rfl, hbq⟩; have Bq : Hid (Below wc.heap.size wc wq) := hide (below_step (by first | (with_reducible exact (Below.refl _ _).drew) | (with_reducible exact Bq.out) | (with_reducible exact Bg.out) | (with_reducible exact Bz.out)) hbq); clear hbq)
        | (go_at_call 13; (with_reducible refine (CG.out _ ?_).mono ?_); (first | (with_reducible exact (Below.refl _ _).drew) | (with_reducible exact Bq.out) | (with_reducible exact Bg.out) | (with_reducible exact Bz.out)); rintro y wg ⟨rfl, hbg⟩; have Bg : Hid (Below wc.heap.size wc wg) := hide (below_step (by first | (with_reducible exact (Below.refl _ _).drew) | (with_reducible exact Bq.out) | (with_reducible exact Bg.out) | (with_reducible exact Bz.out)) hbg); clear hbg)
        | (go_at_call 13; (with_reducible refine (CZ.out _ ?_).mono ?_); (first | (with_reducible exact (Below.refl _ _).drew) | (with_reducible exact Bq.out) | (with_reducible exact Bg.out) | (with_reducible exact Bz.out)); rintro y wz ⟨rfl, hbz⟩; have Bz : Hid (Below wc.heap.size wc wz) := hide (below_step (by first | (with_reducible exact (Below.refl _ _).drew) | (with_reducible exact Bq.out) | (with_reducible exact Bg.out) | (with_reducible exact Bz.out)) hbz); clear hbz)
        | (go_at_call 12; (with_reducible refine (C12.out _).mono ?_); rintro y wl ⟨rfl, hbl⟩; have BL : Hid (Below wc.heap.size wc wl) := hide (below_step (by first | (with_reducible exact Bq.out) | (with_reducible exact Bg.out) | (with_reducible exact Bz.out)) hbl); clear hbl))
      all_goals
        go_wp2
        go_ret
        exact ⟨_, .inr (.inl ⟨rfl, (HHR.out ()).symm⟩), .inr ⟨toldL x [textL tq, textL tg, textL tz], ⟨s.sec, hstep s.sec s.h ev, s.rd, s.kept, s.c⟩, rfl, rfl, HT3.out, HDF.out.still BL.out⟩, QB.out.trans (Quiet.of_below BL.out VF.out.n)⟩
end Go.Proofs.YtdjpghgnjcmdnaaGreatDoor
