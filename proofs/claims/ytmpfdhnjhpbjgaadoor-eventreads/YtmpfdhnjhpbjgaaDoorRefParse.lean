/- Which event a text is: the document's own Parse. -/
import Derived.Test.YtmpfdhnjhpbjgaaDoorKindMap
import Derived.Test.YtmpfdhnjhpbjgaaDoorParse
import Derived.Deep.DeepCutAuto
import Derived.Deep.RegionHeld3
namespace Go.Proofs.YtmpfdhnjhpbjgaaDoor
open Go.RowKit
attribute [local go_sem ↓] Go.wp_at_zero Go.wp_at_succ
attribute [local go_sem] make_run ins0_top ins0_under ins0_over ins1_top ins1_under ins1_over ins2_top ins2_under ins2_over look_top look_under look_over
/-- What Parse answers: the event, or none. -/
def parsedV (s : ByteArray) : Value := if accB s (refEv s) = true then .tuple #[.agg #[.int .i64 (refEv s).k, .string (refEv s).s, .string (refEv s).t, .string (refEv s).r, .string (refEv s).v], .int .i64 0] else .tuple #[.agg #[.int .i64 0, .string ⟨#[]⟩, .string ⟨#[]⟩, .string ⟨#[]⟩, .string ⟨#[]⟩], .int .i64 3]
theorem parsed_ok {s : ByteArray} {k : Int} {a b c d : ByteArray} (he : refEv s = ⟨k, a, b, c, d⟩) (hr : rightB ⟨k, a, b, c, d⟩ = true) (ht : textB ⟨k, a, b, c, d⟩ = s) : parsedV s = .tuple #[.agg #[.int .i64 k, .string a, .string b, .string c, .string d], .int .i64 0] := by
  have h : accB s (refEv s) = true := by rw [he, ← ht]; exact acc_text hr
  unfold parsedV
  rw [if_pos h, he]
theorem parsed_bad {s : ByteArray} {k : Int} {a b c d : ByteArray} (he : refEv s = ⟨k, a, b, c, d⟩) (h : rightB ⟨k, a, b, c, d⟩ = false ∨ ¬ textB ⟨k, a, b, c, d⟩ = s) : parsedV s = .tuple #[.agg #[.int .i64 0, .string ⟨#[]⟩, .string ⟨#[]⟩, .string ⟨#[]⟩, .string ⟨#[]⟩], .int .i64 3] := by
  have h : ¬ accB s (refEv s) = true := by
    intro hc
    rw [he] at hc
    obtain ⟨h1, h2⟩ := acc_of hc
    rcases h with h | h
    · rw [h1] at h; cases h
    · exact h h2
  unfold parsedV
  rw [if_neg h]
theorem head_cat (a b c : ByteArray) : (⟨#[112, 117, 116, 32]⟩ : ByteArray) ++ a ++ ⟨#[32]⟩ ++ b ++ ⟨#[32]⟩ ++ c ++ ⟨#[32]⟩ = headB a b c := by
  refine ba_eq ?_
  simp [ByteArray.data_append, headB, wPut]
theorem prefix_size {s h : ByteArray} (hp : Lib.hasPrefix s.data.toList h.data.toList = true) : h.size ≤ s.size := by
  unfold Lib.hasPrefix at hp
  have := (List.isPrefixOf_iff_prefix.1 hp).length_le
  rw [Lib.size_eq, Lib.size_eq s]; exact this
theorem set_rows {w : World} {B : Nat} {a b c d e x y : Value} (h : HasR w B 70 #[a, b, c, d, e]) : HasR ((w.setCell ⟨B, 2, none⟩ x).setCell ⟨B, 3, none⟩ y) B 70 #[a, b, x, y, e] := (h.set 2 x).set 3 y
theorem set_rows' {w : World} {B : Nat} {a b c d e x y : Value} (h : HasR w B 70 #[a, b, c, d, e]) : HasR ((w.setCell ⟨B, 3, none⟩ y).setCell ⟨B, 2, none⟩ x) B 70 #[a, b, x, y, e] := (h.set 3 y).set 2 x
theorem cell_two {W : World} {o q : Obj} {g : Nat} (h : g < W.heap.size) (i : Nat) : ((W.alloc o).alloc q).drew.cell? ⟨g, i, none⟩ = W.cell? ⟨g, i, none⟩ := by
  show ((W.alloc o).alloc q).cell? ⟨g, i, none⟩ = _
  rw [World.cell?_alloc_lt _ _ ⟨g, i, none⟩ (by simp; omega), World.cell?_alloc_lt _ _ ⟨g, i, none⟩ h]
/-- What is known ahead of the last part: the event lies in a block of its own, the answer's block is still empty. -/
def EvAt (w0 wx : World) (B g : Nat) (E : Array Value) : Prop := HasR wx B 70 E ∧ HasR wx w0.heap.size 70 #[.int .i64 0, .string ⟨#[]⟩, .string ⟨#[]⟩, .string ⟨#[]⟩, .string ⟨#[]⟩] ∧ g < B ∧ w0.heap.size < g ∧ Below w0.heap.size w0 wx
set_option maxRecDepth 100000 in
set_option maxHeartbeats 4000000 in
theorem refParse_any (s : ByteArray) (w : World) (hs : s.size ≤ 150) (hM : TabM w) : Calls Tryd.prog 52 #[.string s] w fun e w' => e = .returned (parsedV s) ∧ Below w.heap.size w w' := by
  have hlM := hM.lt
  have bel := (Below.refl _ w).alloc (Nat.le_refl _) (.cells #[.int .i64 0, .string ⟨#[]⟩, .string ⟨#[]⟩, .string ⟨#[]⟩, .string ⟨#[]⟩] 70)
  have hM0 := hM.below bel hlM
  have S := hide (split_at s (w.alloc (.cells #[.int .i64 0, .string ⟨#[]⟩, .string ⟨#[]⟩, .string ⟨#[]⟩, .string ⟨#[]⟩] 70)) (w.heap.size + 1) (by simp) (by omega) hM0)
  have hfew := all_few s
  obtain ⟨ie, hE⟩ := elemS
  have C := hide (four_at (allB s))
  have s1 : (at_ (allB s) 1).size ≤ 150 := Nat.le_trans (at_size s 1) hs
  have s2 : (at_ (allB s) 2).size ≤ 150 := Nat.le_trans (at_size s 2) hs
  have s3 : (at_ (allB s) 3).size ≤ 150 := Nat.le_trans (at_size s 3) hs
  have RV : Hid (refEv s = { refBare s with v := valOf s (refBare s) }) := rfl
  have RB : Hid (refBare s = ⟨kindB (at_ (allB s) 0).data.toList, at_ (allB s) 1, rowOf (kindB (at_ (allB s) 0).data.toList) (at_ (allB s) 2), rowOf (kindB (at_ (allB s) 0).data.toList) (at_ (allB s) 3), ByteArray.empty⟩) := rfl
  have HBEL := hide bel
  clear bel
  obtain ⟨ws, hws⟩ : ∃ ws, allB s = ws := ⟨_, rfl⟩
  rw [hws] at S hfew C s1 s2 s3 RB
  clear hM hM0 hws
  generalize hp0 : at_ ws 0 = p0 at RB
  generalize hp1 : at_ ws 1 = p1 at RB s1
  generalize hp2 : at_ ws 2 = p2 at RB s2
  generalize hp3 : at_ ws 3 = p3 at RB s3
  have C0 := hide (hp0 ▸ C.out 0 (by omega))
  have C1 := hide (hp1 ▸ C.out 1 (by omega))
  have C2 := hide (hp2 ▸ C.out 2 (by omega))
  have C3 := hide (hp3 ▸ C.out 3 (by omega))
  clear C hp0 hp1 hp2 hp3
  obtain ⟨PV, hPV⟩ : ∃ v, parsedV s = v := ⟨_, rfl⟩
  rw [hPV]
  have HPV := hide hPV
  clear hPV
  go_enter Tryd.func52, Tryd.ntmps52
  go_wp2_with (first
    | (go_at_call 83; (with_reducible refine S.out.mono ?_); rintro e w1 ⟨rfl, hr1, hb1⟩; have l1 := hr1.lt; have HR1 := hide hr1; clear hr1)
    | (at_builtin; refine append_br 9 hE (w.heap.size + 1) _ ws.length (ws.map Value.string) ⟨w1.heap.size, 0, none⟩ 4 4 four rfl rfl (BRn.of (HR1.out.alloc _)) rfl (by omega) (news_blk (HasR.new w1 9 four.toArray)) four_one (by omega) (by simp; omega) ?_; intro g cap w2 hr2 hg2 hl2 hb2))
  have hZ1 : HasR w1 w.heap.size 70 #[.int .i64 0, .string ⟨#[]⟩, .string ⟨#[]⟩, .string ⟨#[]⟩, .string ⟨#[]⟩] := (HasR.new w 70 _).below hb1 (by simp)
  have hZ2 : HasR w2 w.heap.size 70 #[.int .i64 0, .string ⟨#[]⟩, .string ⟨#[]⟩, .string ⟨#[]⟩, .string ⟨#[]⟩] := (hZ1.alloc _).below hb2 (by omega)
  have x0 : w2.cell? ⟨g, 0, none⟩ = some (.string p0) := (hr2.cell 0 (by omega)).trans C0.out
  have x1 : w2.cell? ⟨g, 1, none⟩ = some (.string p1) := (hr2.cell 1 (by omega)).trans C1.out
  have x2 : w2.cell? ⟨g, 2, none⟩ = some (.string p2) := (hr2.cell 2 (by omega)).trans C2.out
  have x3 : w2.cell? ⟨g, 3, none⟩ = some (.string p3) := (hr2.cell 3 (by omega)).trans C3.out
  have lg : g < w2.heap.size := hr2.lt
  have gw : w.heap.size < g := hr2.base
  have hB1 : Below w.heap.size w w1 := HBEL.out.trans (hb1.mono (by simp))
  have hB2 : Below w.heap.size w w2 := (hB1.alloc hB1.size _).trans (hb2.mono (by omega))
  have HZ2 := hide hZ2
  have HB2 := hide hB2
  have i0 : (0 : Int) < (ws.length : Int) + 4 := by omega
  have i1 : (1 : Int) < (ws.length : Int) + 4 := by omega
  have i2 : (2 : Int) < (ws.length : Int) + 4 := by omega
  have i3 : (3 : Int) < (ws.length : Int) + 4 := by omega
  clear hZ1 hZ2 hB1 hB2 hb1 hb2 hl2 hg2 hr2 HR1 S C0 C1 C2 C3 HBEL l1 hfew hE
  go_cut [5] (fun a wx => ∃ B, a = .pointer (some ⟨B, 0, none⟩) ∧ EvAt w wx B g #[.int .i64 (kindB p0.data.toList), .string p1, .string ⟨#[]⟩, .string ⟨#[]⟩, .string ⟨#[]⟩] ∧ wx.cell? ⟨g, 2, none⟩ = some (.string p2) ∧ wx.cell? ⟨g, 3, none⟩ = some (.string p3))
  case first =>
    go_region_held3 (fun wx => wx.cell? ⟨g, 0, none⟩ = some (.string p0) ∧ wx.cell? ⟨g, 1, none⟩ = some (.string p1)) (go_keep) (fail)
    all_goals (
      go_wp2
      go_meet
      case rel =>
        first
        | exact ⟨w2.heap.size + 1, rfl, ⟨HasR.new2 w2 _ 70 _, ((HZ2.out.alloc _).alloc _), by omega, gw, (((HB2.out.alloc HB2.out.size _).alloc (by have := HB2.out.size; simp; omega) _).drew)⟩, (cell_two lg 2).trans x2, (cell_two lg 3).trans x3⟩
        | exact ⟨w2.heap.size, rfl, ⟨(HasR.new w2 70 _).alloc _, ((HZ2.out.alloc _).alloc _), lg, gw, (((HB2.out.alloc HB2.out.size _).alloc (by have := HB2.out.size; simp; omega) _).drew)⟩, (cell_two lg 2).trans x2, (cell_two lg 3).trans x3⟩)
  case rest =>
    obtain ⟨B, rfl, hEv, y2, y3⟩ := hcut
    clear x0 x1 x2 x3 HZ2 HB2 lg
    have RB' : Hid (refBare s = ⟨kindB p0.data.toList, p1, rowOf (kindB p0.data.toList) p2, rowOf (kindB p0.data.toList) p3, ByteArray.empty⟩) := RB
    clear RB
    generalize kindB p0.data.toList = kk at RB' hEv
    obtain ⟨hE5, hZ5, gB, gw5, hB5⟩ := hEv
    have z0 : wc.cell? ⟨B, 0, none⟩ = some (.int .i64 kk) := hE5.cell 0
    have HZ := hide hZ5
    have HB := hide hB5
    have HE := hide hE5
    clear hZ5 hB5 hE5
    go_upto_region 3 with (fail)
    go_cut [30] (fun b wx => b = .bool (decide (kk = 1 ∨ kk = 2)) ∧ wx = wc)
    case first =>
      by_cases h1 : kk = 1
      · subst h1
        go_wp2
        go_meet
        case rel => exact ⟨rfl, rfl⟩
      · have n1 : (kk == 1) = false := by simp; exact h1
        by_cases h2 : kk = 2
        · subst h2
          go_wp2
          go_meet
          case rel => exact ⟨rfl, rfl⟩
        · have n2 : (kk == 2) = false := by simp; exact h2
          go_wp2
          go_meet
          case rel => exact ⟨by rw [decide_eq_false (by omega)], rfl⟩
    case rest =>
      obtain ⟨rfl, rfl⟩ := hcut
      go_upto_if 30 with (fail)
      go_cut [] (fun wx => EvAt w wx B g #[.int .i64 kk, .string p1, .string (rowOf kk p2), .string (rowOf kk p3), .string ⟨#[]⟩])
      case first =>
        by_cases hk : kk = 1 ∨ kk = 2
        · rw [decide_eq_true hk]
          have r2 : rowOf kk p2 = p2 := if_pos hk
          have r3 : rowOf kk p3 = p3 := if_pos hk
          have R2 := hide r2
          have R3 := hide r3
          have z2 : wc.cell? ⟨B, 2, none⟩ = some (.string ⟨#[]⟩) := HE.out.cell 2
          have z3 : wc.cell? ⟨B, 3, none⟩ = some (.string ⟨#[]⟩) := HE.out.cell 3
          have f2 := HE.out.free 2
          have f3 := HE.out.free 3
          have ne : g ≠ B := by omega
          have ne' : B ≠ g := by omega
          clear r2 r3 hk
          go_upto_region 4 with (fail)
          go_region_held3 (fun wx => wx.cell? ⟨g, 2, none⟩ = some (.string p2) ∧ wx.cell? ⟨g, 3, none⟩ = some (.string p3)) (go_keep) (fail)
          all_goals (
            go_wp2
            go_meet
            case rel => 
              rw [R2.out, R3.out]
              have bz : B ≠ w.heap.size := by omega
              first
              | exact ⟨(set_rows HE.out).drew, ((HZ.out.other ⟨B, 2, none⟩ (fun e => bz e.symm) _).other ⟨B, 3, none⟩ (fun e => bz e.symm) _).drew, gB, gw5, ((HB.out.setCell (by show w.heap.size ≤ B; omega) _).setCell (by show w.heap.size ≤ B; omega) _).drew⟩
              | exact ⟨(set_rows' HE.out).drew, ((HZ.out.other ⟨B, 3, none⟩ (fun e => bz e.symm) _).other ⟨B, 2, none⟩ (fun e => bz e.symm) _).drew, gB, gw5, ((HB.out.setCell (by show w.heap.size ≤ B; omega) _).setCell (by show w.heap.size ≤ B; omega) _).drew⟩)
        · rw [decide_eq_false hk]
          have r2 : rowOf kk p2 = ⟨#[]⟩ := if_neg hk
          have r3 : rowOf kk p3 = ⟨#[]⟩ := if_neg hk
          have R2 := hide r2
          have R3 := hide r3
          clear r2 r3 hk
          go_wp2
          go_meet
          case rel => rw [R2.out, R3.out]; exact ⟨HE.out, HZ.out, gB, gw5, HB.out⟩
      case rest =>
        obtain ⟨hE6, hZ6, _, _, hB6⟩ := hcut
        clear HE HZ HB y2 y3 z0
        have st : (rowOf kk p2).size ≤ 150 := by unfold rowOf; split; exact s2; exact Nat.zero_le _
        have sr : (rowOf kk p3).size ≤ 150 := by unfold rowOf; split; exact s3; exact Nat.zero_le _
        generalize rowOf kk p2 = t at RB' hE6 st
        generalize rowOf kk p3 = r at RB' hE6 sr
        obtain ⟨V, hV⟩ : ∃ V, valOf s ⟨kk, p1, t, r, ByteArray.empty⟩ = V := ⟨_, rfl⟩
        have RE : Hid (refEv s = ⟨kk, p1, t, r, V⟩) := by
          show refEv s = _
          rw [RV.out, RB'.out, hV]
        have sV : V.size ≤ 150 := by
          rw [← hV]; unfold valOf; split
          · rw [ByteArray.size_extract]; omega
          · exact Nat.zero_le _
        have HV := hide hV
        clear RV RB' hV s2 s3
        have e0 : wc.cell? ⟨B, 0, none⟩ = some (.int .i64 kk) := hE6.cell 0
        have e1 : wc.cell? ⟨B, 1, none⟩ = some (.string p1) := hE6.cell 1
        have e2 : wc.cell? ⟨B, 2, none⟩ = some (.string t) := hE6.cell 2
        have e3 : wc.cell? ⟨B, 3, none⟩ = some (.string r) := hE6.cell 3
        have e4 : wc.cell? ⟨B, 4, none⟩ = some (.string ⟨#[]⟩) := hE6.cell 4
        have f4 := hE6.free 4
        have HE := hide hE6
        have HZ := hide hZ6
        have HB := hide hB6
        clear hE6 hZ6 hB6
        go_upto_region 6 with (fail)
        rw [head_cat]
        have PX := hide (fun wx => prefix_any s (headB p1 t r) wx)
        obtain ⟨H, hH⟩ : ∃ H, headB p1 t r = H := ⟨_, rfl⟩
        rw [hH] at PX
        rw [hH]
        have HH := hide hH
        clear hH
        go_cut [58] (fun b wx => b = .bool (decide (kk = 1) && Lib.hasPrefix s.data.toList H.data.toList) ∧ wx = wc)
        case first =>
          obtain ⟨q, hq⟩ : ∃ q, Lib.hasPrefix s.data.toList H.data.toList = q := ⟨_, rfl⟩
          rw [hq] at PX
          have HQ := hide hq
          clear hq
          by_cases h1 : kk = 1
          · subst h1
            go_wp2_with (go_at_call 84; (with_reducible refine (PX.out _).mono ?_); rintro e w7 ⟨rfl, rfl⟩)
            go_meet
            case rel => exact ⟨by rw [HQ.out]; simp, rfl⟩
          · have n1 : (kk == 1) = false := by simp; exact h1
            go_wp2
            go_meet
            case rel => exact ⟨by rw [decide_eq_false h1]; rfl, rfl⟩
        case rest =>
          obtain ⟨rfl, rfl⟩ := hcut
          clear PX
          go_upto_if 58 with (fail)
          go_cut [] (fun wx => EvAt w wx B g #[.int .i64 kk, .string p1, .string t, .string r, .string V])
          case first =>
            cases hq : (decide (kk = 1) && Lib.hasPrefix s.data.toList H.data.toList)
            · have v0 : V = ⟨#[]⟩ := by
                rw [← HV.out]; unfold valOf
                rw [if_neg]
                · rfl
                · intro hc
                  rw [HH.out] at hc
                  rw [decide_eq_true hc.1, hc.2] at hq
                  cases hq
              have V0 := hide v0
              clear v0 hq
              go_wp2
              go_meet
              case rel => rw [V0.out]; exact ⟨HE.out, HZ.out, gB, gw5, HB.out⟩
            · rw [Bool.and_eq_true] at hq
              have hle := prefix_size hq.2
              have v1 : V = s.extract H.size s.size := by
                rw [← HV.out]; unfold valOf
                rw [if_pos ⟨of_decide_eq_true hq.1, by rw [HH.out]; exact hq.2⟩]
                show s.extract (headB p1 t r).size s.size = _
                rw [HH.out]
              have V1 := hide v1
              clear v1 hq
              have j1 : (H.size : Int) ≤ (s.size : Int) := by omega
              go_wp2
              go_meet
              case rel =>
                rw [V1.out]
                have bz : B ≠ w.heap.size := by omega
                exact ⟨HE.out.set 4 _, HZ.out.other ⟨B, 4, none⟩ (fun e => bz e.symm) _, gB, gw5, HB.out.setCell (by show w.heap.size ≤ B; omega) _⟩
          case rest =>
            obtain ⟨hE7, hZ7, _, _, hB7⟩ := hcut
            clear HE HZ HB e0 e1 e2 e3 e4 f4 HV HH
            have e0 : wc.cell? ⟨B, 0, none⟩ = some (.int .i64 kk) := hE7.cell 0
            have e1 : wc.cell? ⟨B, 1, none⟩ = some (.string p1) := hE7.cell 1
            have e2 : wc.cell? ⟨B, 2, none⟩ = some (.string t) := hE7.cell 2
            have e3 : wc.cell? ⟨B, 3, none⟩ = some (.string r) := hE7.cell 3
            have e4 : wc.cell? ⟨B, 4, none⟩ = some (.string V) := hE7.cell 4
            have HE := hide hE7
            have HZ := hide hZ7
            have HB := hide hB7
            have lB := hE7.lt
            have lZ := hZ7.lt
            clear hE7 hZ7 hB7
            cases hr : rightB ⟨kk, p1, t, r, V⟩
            · have P := hide (refPrint_bad kk p1 t r V wc (by omega) (by omega) (by omega) (by omega) hr)
              have A := hide (HPV.out.symm.trans (parsed_bad RE.out (.inl hr)))
              clear hr RE
              go_wp2_with (go_at_call 48; (with_reducible refine P.out.mono ?_); rintro e w8 ⟨rfl, hb8⟩; have hz8 := HZ.out.below hb8 lZ; have HZ8 := hide hz8; have HB8 := hide (HB.out.trans (hb8.mono HB.out.size)); have z0 : w8.cell? ⟨w.heap.size, 0, none⟩ = some (.int .i64 0) := hz8.cell 0; have z1 : w8.cell? ⟨w.heap.size, 1, none⟩ = some (.string ⟨#[]⟩) := hz8.cell 1; have z2 : w8.cell? ⟨w.heap.size, 2, none⟩ = some (.string ⟨#[]⟩) := hz8.cell 2; have z3 : w8.cell? ⟨w.heap.size, 3, none⟩ = some (.string ⟨#[]⟩) := hz8.cell 3; have z4 : w8.cell? ⟨w.heap.size, 4, none⟩ = some (.string ⟨#[]⟩) := hz8.cell 4; have h0 := hz8.free 0; have h1 := hz8.free 1; have h2 := hz8.free 2; have h3 := hz8.free 3; have h4 := hz8.free 4; clear hz8)
              obtain ⟨hBW, hW⟩ := zero_store HZ8.out HB8.out
              refine bodyPost_ret (v := .tuple #[.agg #[.int .i64 0, .string ⟨#[]⟩, .string ⟨#[]⟩, .string ⟨#[]⟩, .string ⟨#[]⟩], .int .i64 3]) ?_ rfl ⟨by rw [A.out], hBW⟩
              have q0 := hW.cell 0
              have q1 := hW.cell 1
              have q2 := hW.cell 2
              have q3 := hW.cell 3
              have q4 := hW.cell 4
              simp only [World.setCells] at q0 q1 q2 q3 q4
              simp [results, Tryd.results52, go_sem, q0, q1, q2, q3, q4]
            · have P := hide (refPrint_ok kk p1 t r V wc (by omega) (by omega) (by omega) (by omega) hr)
              by_cases ht : textB ⟨kk, p1, t, r, V⟩ = s
              · have A := hide (HPV.out.symm.trans (parsed_ok RE.out hr ht))
                rw [ht] at P
                clear hr RE ht
                go_wp2_with (go_at_call 48; (with_reducible refine P.out.mono ?_); rintro e w8 ⟨rfl, hb8⟩; have he8 := HE.out.below hb8 lB; have g0 : w8.cell? ⟨B, 0, none⟩ = some (.int .i64 kk) := he8.cell 0; have g1 : w8.cell? ⟨B, 1, none⟩ = some (.string p1) := he8.cell 1; have g2 : w8.cell? ⟨B, 2, none⟩ = some (.string t) := he8.cell 2; have g3 : w8.cell? ⟨B, 3, none⟩ = some (.string r) := he8.cell 3; have g4 : w8.cell? ⟨B, 4, none⟩ = some (.string V) := he8.cell 4; clear he8; have hz8 := HZ.out.below hb8 lZ; have HZ8 := hide hz8; have HB8 := hide (HB.out.trans (hb8.mono HB.out.size)); have z0 : w8.cell? ⟨w.heap.size, 0, none⟩ = some (.int .i64 0) := hz8.cell 0; have z1 : w8.cell? ⟨w.heap.size, 1, none⟩ = some (.string ⟨#[]⟩) := hz8.cell 1; have z2 : w8.cell? ⟨w.heap.size, 2, none⟩ = some (.string ⟨#[]⟩) := hz8.cell 2; have z3 : w8.cell? ⟨w.heap.size, 3, none⟩ = some (.string ⟨#[]⟩) := hz8.cell 3; have z4 : w8.cell? ⟨w.heap.size, 4, none⟩ = some (.string ⟨#[]⟩) := hz8.cell 4; have h0 := hz8.free 0; have h1 := hz8.free 1; have h2 := hz8.free 2; have h3 := hz8.free 3; have h4 := hz8.free 4; clear hz8)
                have hW := HasR.whole HZ8.out [.int .i64 kk, .string p1, .string t, .string r, .string V] rfl
                have hBW := below_setCells [.int .i64 kk, .string p1, .string t, .string r, .string V] 0 _ _ _ _ HB8.out (Nat.le_refl _)
                refine bodyPost_ret (v := .tuple #[.agg #[.int .i64 kk, .string p1, .string t, .string r, .string V], .int .i64 0]) ?_ rfl ⟨by rw [A.out], hBW⟩
                have q0 := hW.cell 0
                have q1 := hW.cell 1
                have q2 := hW.cell 2
                have q3 := hW.cell 3
                have q4 := hW.cell 4
                simp only [World.setCells] at q0 q1 q2 q3 q4
                simp [results, Tryd.results52, go_sem, q0, q1, q2, q3, q4]
              · have A := hide (HPV.out.symm.trans (parsed_bad RE.out (.inr ht)))
                have hne : ((textB ⟨kk, p1, t, r, V⟩).toList == s.toList) = false := text_ne fun e => ht (ba_eq e)
                clear hr RE ht
                generalize textB ⟨kk, p1, t, r, V⟩ = T at P hne
                go_wp2_with (go_at_call 48; (with_reducible refine P.out.mono ?_); rintro e w8 ⟨rfl, hb8⟩; have hz8 := HZ.out.below hb8 lZ; have HZ8 := hide hz8; have HB8 := hide (HB.out.trans (hb8.mono HB.out.size)); have z0 : w8.cell? ⟨w.heap.size, 0, none⟩ = some (.int .i64 0) := hz8.cell 0; have z1 : w8.cell? ⟨w.heap.size, 1, none⟩ = some (.string ⟨#[]⟩) := hz8.cell 1; have z2 : w8.cell? ⟨w.heap.size, 2, none⟩ = some (.string ⟨#[]⟩) := hz8.cell 2; have z3 : w8.cell? ⟨w.heap.size, 3, none⟩ = some (.string ⟨#[]⟩) := hz8.cell 3; have z4 : w8.cell? ⟨w.heap.size, 4, none⟩ = some (.string ⟨#[]⟩) := hz8.cell 4; have h0 := hz8.free 0; have h1 := hz8.free 1; have h2 := hz8.free 2; have h3 := hz8.free 3; have h4 := hz8.free 4; clear hz8)
                obtain ⟨hBW, hW⟩ := zero_store HZ8.out HB8.out
                refine bodyPost_ret (v := .tuple #[.agg #[.int .i64 0, .string ⟨#[]⟩, .string ⟨#[]⟩, .string ⟨#[]⟩, .string ⟨#[]⟩], .int .i64 3]) ?_ rfl ⟨by rw [A.out], hBW⟩
                have q0 := hW.cell 0
                have q1 := hW.cell 1
                have q2 := hW.cell 2
                have q3 := hW.cell 3
                have q4 := hW.cell 4
                simp only [World.setCells] at q0 q1 q2 q3 q4
                simp [results, Tryd.results52, go_sem, q0, q1, q2, q3, q4]
end Go.Proofs.YtmpfdhnjhpbjgaaDoor
