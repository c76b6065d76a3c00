/- The law's own call: every secret and list of acts. -/
import Derived.Test.YtdoakaadpfheaaaDoorBoth
import Derived.Deep.CutBlock
import Derived.Deep.DeepCutAuto
namespace Go.Proofs.YtdoakaadpfheaaaDoor
open Go.RowKit Go.Maps Go.Sort
attribute [local go_sem ↓] Go.wp_at_zero Go.wp_at_succ
/-- A list of acts as it came in: of each what it is, which number, and of whom. -/
def Acts (w : World) (v : Value) (xs : List (Int × Int × ByteArray)) : Prop :=
  ∃ ao cap, v = .slice ao xs.length cap ∧ ∀ k, k < xs.length → ∃ b off, ao = some ⟨b, off, none⟩ ∧ b < w.heap.size ∧ w.cell? ⟨b, off + k * 3, none⟩ = some (.int .i64 (xs.getD k (0, 0, ByteArray.empty)).1) ∧
    w.cell? ⟨b, off + k * 3 + 1, none⟩ = some (.int .i64 (xs.getD k (0, 0, ByteArray.empty)).2.1) ∧ w.cell? ⟨b, off + k * 3 + 2, none⟩ = some (.string (xs.getD k (0, 0, ByteArray.empty)).2.2)
set_option maxRecDepth 100000 in
set_option maxHeartbeats 2000000 in
theorem keeps_main (sec : ByteArray) (v : Value) (xs : List (Int × Int × ByteArray)) (W : World) (h16 : sec.size = 16) (hl : xs.length ≤ 40) (hA : Acts W v xs) (hE : TabE W) (hK : TabK W) :
    Calls Tryd.prog 8 #[.string sec, v] W fun e w' => e = .returned (.bool true) ∧ Below W.heap.size W w' := by
  obtain ⟨ao, cap, rfl, hC⟩ := hA
  have HC := hide hC
  clear hC
  have k1 := fun wx => long_any sec wx
  rw [decide_eq_false (by omega)] at k1
  have K1 := hide k1
  clear k1
  have d2 : decide ((40 : Int) < (xs.length : Int)) = false := decide_eq_false (by omega)
  have BN := hide (fun wx => same_below (bare_nil wx))
  generalize hL : xs.length = L at *
  go_enter Tryd.func8, Tryd.ntmps8
  go_wp2_with (first
    | (go_at_call 9; (with_reducible refine (K1.out _).mono ?_); rintro e w1 ⟨rfl, rfl⟩)
    | (go_at_call 10; (with_reducible refine (new_any _).mono ?_); rintro e w2 ⟨rfl, hN, hb2⟩; have hR2 := refR_of hN; have hE2 := hE.below hb2 hE.lt; have hK2 := hK.below hb2 hK.lt)
    | (go_at_call 32; (with_reducible refine (refNew_ok _ sec _ h16 hR2).mono ?_); rintro e w3 ⟨rfl, hV3, hb3⟩)
    | (go_at_call 33; (with_reducible refine (new_ok sec _ h16).mono ?_); rintro e w4 ⟨rfl, hP4, hb4⟩)
    | (go_at_call 21; (with_reducible refine (BN.out _).mono ?_); rintro e w5 ⟨rfl, hb5⟩))
  have s2 := hR2.lt
  have s3 := hV3.row.lt
  have s4 := hP4.row.lt
  have hA5 : Agree w1 w5 w1.heap.size (w2.heap.size + 2) w2.heap.size (w2.heap.size + 1) w3.heap.size none sec 0 kept0 :=
    ⟨(hV3.below hb4).below hb5, hP4.below hb5, fun l => Nat.le_refl _, by simp; omega, by simp; omega, by simp; omega, ((hb2.trans (hb3.mono hb2.size)).trans (hb4.mono (by omega))).trans (hb5.mono (by omega))⟩
  have HA5 := hide hA5
  clear hA5 hV3 hP4 hb3 hb4 hb5 hb2 hN hR2 hE2 hK2 s2 s3 s4 K1
  generalize w2.heap.size + 2 = b at HA5 ⊢
  generalize w2.heap.size + 1 = bs at HA5
  generalize w2.heap.size = bh at HA5
  generalize w3.heap.size = p at HA5 ⊢
  go_loopw [10] (fun i wr => ∃ (k : Nat) (mo : Option Nat) (σ : Kept), k ≤ L ∧ i = .int .i64 k ∧ Agree w1 wr w1.heap.size b bh bs p mo sec k σ) (fun i _ => L - (intOf i).toNat)
  case atStart => exact ⟨0, none, kept0, by omega, rfl, HA5.out⟩
  case round =>
    obtain ⟨k, mo, σ, hk, rfl, hA⟩ := hrel
    have HA := hide hA
    clear hA HA5
    by_cases hlt : k < L
    · obtain ⟨ab, off, rfl, hab, e0, e1, e2⟩ := HC.out k hlt
      have hbw := HA.out.below
      rw [← hbw.cell (p := ⟨ab, off + k * 3, none⟩) hab] at e0
      rw [← hbw.cell (p := ⟨ab, off + k * 3 + 1, none⟩) hab] at e1
      rw [← hbw.cell (p := ⟨ab, off + k * 3 + 2, none⟩) hab] at e2
      generalize xs.getD k (0, 0, ByteArray.empty) = x at e0 e1 e2
      obtain ⟨what, gen, s⟩ := x
      simp only at e0 e1 e2
      have i0 : (0 : Int) ≤ (k : Int) := by omega
      have i1 : (k : Int) < (L : Int) := by omega
      have K2 := hide (fun wx => long_any s wx)
      by_cases h60 : 60 < s.size
      · rw [decide_eq_true h60] at K2
        go_wp2_with (go_at_call 9; (with_reducible refine (K2.out _).mono ?_); rintro e w6 ⟨rfl, rfl⟩)
        go_ret
        exact ⟨rfl, HA.out.below.alloc HA.out.below.size _⟩
      · rw [decide_eq_false h60] at K2
        have hH := HA.out.begin #[.int .i64 what, .int .i64 gen, .string s]
        have HH := hide hH
        have HF := hide HA.out.few
        clear hH HC hbw BN
        go_upto_block 2 with (go_at_call 9; (with_reducible refine (K2.out _).mono ?_); rintro e w6 ⟨rfl, rfl⟩)
        clear K2 e0 e1 e2
        go_cut [11] (fun a wx => a = .pointer (some ⟨wr.heap.size, 0, none⟩) ∧ ∃ (mo' : Option Nat) (σ' : Kept), (∀ l, (σ' l).1 ≤ k + 1) ∧ Half w1 wx w1.heap.size b bh bs p mo' sec (k + 1) σ' (k + 1) σ' wr.heap.size #[.int .i64 what, .int .i64 gen, .string s])
        case first =>
          by_cases hw0 : what = 0
          · subst hw0
            obtain ⟨kk, a, en, v, σ', hf, mP, mR, mB⟩ := make_both sec s k σ (by omega) (by omega) (by omega) (HF.out _) HF.out
            have MP := hide mP
            have MR := hide mR
            have MB := hide mB
            have MF := hide hf
            clear mP mR mB hf
            go_wp2_with (first
              | (go_at_call 34; (with_reducible refine (MR.out _ _ _ _ _ HH.out.ref).mono ?_); rintro e w7 ⟨rfl, hk7⟩; have H7 := hide (HH.out.refStep hk7); have c7 : w7.cell? ⟨wr.heap.size, 2, none⟩ = some (.string s) := H7.out.row.cell 2; have hK7 := hK.below H7.out.below hK.lt)
              | (go_at_call 35; (with_reducible refine (MP.out _ _ _ hK7 H7.out.prog).mono ?_); rintro e w8 ⟨rfl, mo', hu8⟩; have H8 := hide (H7.out.progStep hu8); have hE8 := hE.below H8.out.below hE.lt)
              | (go_at_call 21; (with_reducible refine (MB.out _ hE8).mono ?_); rintro e w9 ⟨rfl, hb9⟩; have H9 := hide (H8.out.still hb9)))
            go_meet
            exact ⟨rfl, mo', σ', MF.out, H9.out⟩
          · have g0 : decide (what = 0) = false := decide_eq_false hw0
            by_cases hw1 : what = 1
            · subst hw1
              obtain ⟨en, v, fP, fR, fB⟩ := forget_both sec s k σ (by omega) (by omega)
              have FP := hide fP
              have FR := hide fR
              have FB := hide fB
              have HHd := hide (HH.out.still (Below.refl _ _).drew)
              have c6 : (wr.alloc (.cells #[.int .i64 1, .int .i64 gen, .string s] 57)).drew.cell? ⟨wr.heap.size, 2, none⟩ = some (.string s) := HHd.out.row.cell 2
              have C6 := hide c6
              clear fP fR fB c6
              go_wp2_with fail
              go_region_held3 (fun wx => wx.cell? ⟨wr.heap.size, 2, none⟩ = some (.string s)) (first | exact c9 | exact c8 | exact c7 | exact C6.out)
                (first
                | (go_at_call 36; (with_reducible refine (FP.out _ _ _ HHd.out.prog).mono ?_); rintro e w7 ⟨rfl, mo', hu7⟩; have H7 := hide (HHd.out.progStep hu7); have c7 : w7.cell? ⟨wr.heap.size, 2, none⟩ = some (.string s) := H7.out.row.cell 2)
                | (go_at_call 37; (with_reducible refine (FR.out _ _ _ _ _ H7.out.ref).mono ?_); rintro e w8 ⟨rfl, hk8⟩; have H8 := hide (H7.out.refStep hk8); have c8 : w8.cell? ⟨wr.heap.size, 2, none⟩ = some (.string s) := H8.out.row.cell 2; have hE8 := hE.below H8.out.below hE.lt)
                | (go_at_call 21; (with_reducible refine (FB.out _ hE8).mono ?_); rintro e w9 ⟨rfl, hb9⟩; have H9 := hide (H8.out.still hb9); have c9 : w9.cell? ⟨wr.heap.size, 2, none⟩ = some (.string s) := H9.out.row.cell 2))
              all_goals
                go_wp2
                go_meet
                exact ⟨rfl, mo', _, fun l => Nat.le_trans (gone_few HF.out l) (by omega), H9.out⟩
            · have g1 : decide (what = 1) = false := decide_eq_false hw1
              go_wp2
              go_meet
              exact ⟨rfl, mo, σ, fun l => Nat.le_trans (HF.out l) (by omega), HH.out.ref.more, HH.out.prog.more, HH.out.apart, HH.out.low, HH.out.lowR, HH.out.below, HH.out.row, HH.out.xr, HH.out.xp⟩
        case rest =>
          obtain ⟨rfl, mo', σ', hf, hH9⟩ := hcut
          obtain ⟨a, en, v, yP, yR, yB⟩ := key_both sec s (k + 1) σ' gen (by omega) (by omega) (by omega) (hf _)
          have YP := hide yP
          have YR := hide yR
          have YB := hide yB
          have H9 := hide hH9
          have MF := hide hf
          have NP := hide (fun wx => name_any s wx)
          have NR := hide (fun wx => refName_any s wx (by omega))
          generalize nameB s.data.toList = nb at NP NR
          have c91 : wc.cell? ⟨wr.heap.size, 1, none⟩ = some (.int .i64 gen) := hH9.row.cell 1
          have c92 : wc.cell? ⟨wr.heap.size, 2, none⟩ = some (.string s) := hH9.row.cell 2
          clear yP yR yB hH9 hf HH HF HA
          go_wp2_with (first
            | (go_at_call 38; (with_reducible refine (YR.out _ _ _ _ _ H9.out.ref).mono ?_); rintro e wA ⟨rfl, hbA⟩; have HA := hide (H9.out.still hbA); have cA1 : wA.cell? ⟨wr.heap.size, 1, none⟩ = some (.int .i64 gen) := HA.out.row.cell 1; have cA2 : wA.cell? ⟨wr.heap.size, 2, none⟩ = some (.string s) := HA.out.row.cell 2)
            | (go_at_call 39; (with_reducible refine (YP.out _ _ _ HA.out.prog).mono ?_); rintro e wB ⟨rfl, hbB⟩; have HB := hide ((HA.out.still hbB).still (Below.refl _ _).drew); have cB2 := hide (HB.out.row.cell 2); have hEB := hide (hE.below HB.out.below hE.lt)))
          go_region_held3 (fun wx => wx.cell? ⟨wr.heap.size, 2, none⟩ = some (.string s)) (first | exact cG2 | exact cF2 | exact cD2 | exact cC2 | exact cB2.out)
            (first
            | (go_at_call 21; (with_reducible refine (YB.out _ hEB.out).mono ?_); rintro e wC ⟨rfl, hbC⟩; have HC := hide (HB.out.still hbC); have cC2 : wC.cell? ⟨wr.heap.size, 2, none⟩ = some (.string s) := HC.out.row.cell 2)
            | (go_at_call 41; (with_reducible refine (subjects_any _ _ _ _ _ _ (by omega) HC.out.prog).mono ?_); rintro e wD ⟨v1, ts1, rfl, ho1, hl1, hr1, hbD⟩; have HD := hide (HC.out.still hbD); have HL1 := hide (listed_of hr1); have HO1 := hide ho1; clear hr1 ho1; have cD2 : wD.cell? ⟨wr.heap.size, 2, none⟩ = some (.string s) := HD.out.row.cell 2)
            | (go_at_call 42; (with_reducible refine (refSubjects_any _ _ _ _ _ _ _ _ (by omega) HD.out.ref).mono ?_); rintro e wF ⟨v2, ts2, rfl, ho2, hl2, hr2, hbF⟩; have HF := hide (HD.out.still hbF); have HL2 := hide (listed_of hr2); have HL3 := hide (HL1.out.below hbF); have HO2 := hide (ho2.eq HO1.out); clear hr2 ho2; have cF2 : wF.cell? ⟨wr.heap.size, 2, none⟩ = some (.string s) := HF.out.row.cell 2)
            | (go_at_call 40; (with_reducible refine (sameTexts_any _ _ ts1 _ (by omega) HL3.out (HO2.out ▸ HL2.out)).mono ?_); rintro e wG ⟨rfl, hbG⟩; have HG := hide (HF.out.still hbG); have cG2 : wG.cell? ⟨wr.heap.size, 2, none⟩ = some (.string s) := HG.out.row.cell 2)
            | (go_at_call 43; (with_reducible refine (NP.out _).mono ?_); rintro e wH ⟨rfl, rfl⟩)
            | (go_at_call 44; (with_reducible refine (NR.out _).mono ?_); rintro e wI ⟨rfl, rfl⟩))
          all_goals
            go_wp2
            go_roundw
            case rel => exact ⟨k + 1, mo', σ', by omega, by go_num, HG.out.ends MF.out⟩
            case measure => simp [intOf]; omega
    · have i1 : ¬ (k : Int) < (L : Int) := by omega
      go_wp2
      go_ret
      exact ⟨rfl, HA.out.below⟩
set_option maxRecDepth 100000 in
set_option maxHeartbeats 2000000 in
theorem keeps_any (sec : ByteArray) (v : Value) (xs : List (Int × Int × ByteArray)) (W : World) (hA : Acts W v xs) (hE : TabE W) (hK : TabK W) :
    Calls Tryd.prog 8 #[.string sec, v] W fun e w' => e = .returned (.bool true) ∧ Below W.heap.size W w' := by
  have k1 := long_any sec W
  by_cases hs : 60 < sec.size
  · rw [decide_eq_true hs] at k1
    have K1 := hide k1
    clear k1
    go_enter Tryd.func8, Tryd.ntmps8
    go_wp2_with (go_at_call 9; (with_reducible refine K1.out.mono ?_); rintro e w1 ⟨rfl, rfl⟩)
    go_ret
    exact ⟨rfl, Below.refl _ _⟩
  rw [decide_eq_false hs] at k1
  have K1 := hide k1
  clear k1
  by_cases hl : 40 < xs.length
  · obtain ⟨ao, cap, rfl, _⟩ := hA
    have d2 : decide ((40 : Int) < (xs.length : Int)) = true := decide_eq_true (by omega)
    go_enter Tryd.func8, Tryd.ntmps8
    go_wp2_with (go_at_call 9; (with_reducible refine K1.out.mono ?_); rintro e w1 ⟨rfl, rfl⟩)
    go_ret
    exact ⟨rfl, Below.refl _ _⟩
  by_cases h16 : sec.size = 16
  · exact keeps_main sec v xs W h16 (by omega) hA hE hK
  · obtain ⟨ao, cap, rfl, _⟩ := hA
    have d2 : decide ((40 : Int) < (xs.length : Int)) = false := decide_eq_false (by omega)
    have BS := hide (fun wx hEx => bare_same 1 wx hEx)
    go_enter Tryd.func8, Tryd.ntmps8
    go_wp2_with (first
      | (go_at_call 9; (with_reducible refine K1.out.mono ?_); rintro e w1 ⟨rfl, rfl⟩)
      | (go_at_call 10; (with_reducible refine (new_any _).mono ?_); rintro e w2 ⟨rfl, hN, hb2⟩; have hE2 := hE.below hb2 hE.lt)
      | (go_at_call 32; (with_reducible refine (refNew_bad _ sec _ h16).mono ?_); rintro e w3 ⟨rfl, rfl⟩)
      | (go_at_call 33; (with_reducible refine (new_bad sec _ h16).mono ?_); rintro e w4 ⟨rfl, rfl⟩)
      | (go_at_call 21; (with_reducible refine (BS.out _ hE5).mono ?_); rintro e w6 ⟨rfl, hb6⟩)
      | (go_at_call 21; (with_reducible refine (BS.out _ hE2).mono ?_); rintro e w5 ⟨rfl, hb5⟩; have hE5 := hE2.below hb5 hE2.lt))
    go_ret
    exact ⟨rfl, hb2.trans ((hb5.mono hb2.size).trans (hb6.mono (Nat.le_trans hb2.size hb5.size)))⟩
end Go.Proofs.YtdoakaadpfheaaaDoor
