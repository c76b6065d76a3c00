/- Texts of this proof, one behind the other. -/
import Derived.Deep.RegionHeld3
import Derived.Deep.DeepCutAuto
import Derived.Test.YtdjpghgnjcmdnaaGreatDoorPart37
/- The orders 'put', 'del', 'gone' where nothing happens. -/
namespace Go.Proofs.YtdjpghgnjcmdnaaGreatDoor
open Go.RowKit Go.Shelf Go.Sort Go.Maps
set_option linter.unusedSectionVars false
variable [Inhabited LowT]
variable [Inhabited Cl] [Inhabited Ev]
attribute [local go_sem ↓] Go.wp_at_zero Go.wp_at_succ
attribute [local go_sem ↓] run_add_few
set_option maxRecDepth 100000 in
set_option maxHeartbeats 4000000 in
theorem happen_bad (db : Nat) (s : DeskS) (w : World) (x : ByteArray) (v : Value) (xs : List ByteArray) (z : Int) (hD : Desk db s w) (hV : Vars w) (hP : LineW w v xs) (hsz : ((x :: xs).map fun y => y.size + 1).sum ≤ 30001) (HACC : accB (textL (lineL x xs)) (splitEv (textL (lineL x xs))) = false) :
    Calls Tryz.prog 15 #[.pointer (some ⟨db, 0, none⟩), .agg #[.string x, v, .int .i64 z]] w fun e w' => OutD db s 15 x xs z w e w' := by
  obtain ⟨κ, B, ob, sb, fb, vb, mt, mv, vf, rm, ρ, c3, c4, c5, c6, h⟩ := hD
  obtain ⟨hP1, p, cp, rfl, hcp⟩ := hP
  have hx := (size_words hsz).1
  have X0 := hide (HasR.new w 65 #[.string x, .slice p xs.length cp, .int .i64 z])
  have B0 := hide ((Below.refl w.heap.size w).alloc (Nat.le_refl _) (.cells #[.string x, .slice p xs.length cp, .int .i64 z] 65))
  obtain ⟨W, hW⟩ : ∃ W, w.alloc (.cells #[.string x, .slice p xs.length cp, .int .i64 z] 65) = W := ⟨_, rfl⟩
  rw [hW] at X0 B0
  have HW := hide hW
  have HD := hide (h.still B0.out)
  have h11 := hV.n
  have _hk11 := lowK_le
  have HV := hide (hV.low (B0.out.mono h11) B0.out.size)
  have hlS : s.h.ok.length ≤ 100 := h.good.len
  have hrl : s.h.rs.length = s.h.ok.length := h.good.did.both
  have VB : Hid (∀ wx, Below W.heap.size W wx → Vars wx) := hide fun wx hb => HV.out.low (hb.mono HV.out.n) hb.size
  have KB : Hid (∀ wx, Below W.heap.size W wx → wx.cell? ⟨w.heap.size, 0, none⟩ = some (.string x) ∧ wx.cell? ⟨w.heap.size, 1, none⟩ = some (.slice p xs.length cp) ∧ wx.cell? ⟨w.heap.size, 2, none⟩ = some (.int .i64 z) ∧ wx.cell? ⟨db, 1, none⟩ = some (.pointer (some ⟨sb, 0, none⟩))) := hide fun wx hb =>
    have X := X0.out.below hb X0.out.lt
    ⟨X.cell 0, X.cell 1, X.cell 2, (HD.out.still hb).desk.cell 1⟩
  obtain ⟨k0, k1, k2, k3⟩ := KB.out W (Below.refl _ _)
  have HH := hide h
  have HP := hide hP1
  have LW : Hid (Parts W (.slice p xs.length cp) xs) := hide (hP1.below B0.out rfl)
  clear h hW hP1
  have hHF := happ_form (s := s) HACC
  have FIN : Hid (∀ wx, Below W.heap.size W wx → OutD db s 15 x xs z w (thrown 3) wx) := hide fun wx hb =>
    have bT := B0.out.trans (hb.mono B0.out.size)
    ⟨.inl 3, .inr (.inl ⟨rfl, hHF.symm⟩), .inl ⟨3, rfl, by omega, rfl, HH.out.same bT⟩, Quiet.of_below bT h11⟩
  clear hHF
  have hjl := line_len hsz
  have hxl := len_words hsz
  have C38 : Hid (∀ wx, Below W.heap.size W wx → Calls Tryz.prog 38 #[.slice p xs.length cp, .string ⟨#[32]⟩] wx fun e w' => e = .returned (.string (textL (Lib.join (xs.map (·.data.toList)) [32]))) ∧ Below wx.heap.size wx w') := hide (fun wx hb => join_words (LW.out.below hb rfl) hcp (by omega) (by omega))
  have LT := hide (fun _ : Unit => line_text x xs)
  have f4 : Few2 (textL (Lib.join (xs.map (·.data.toList)) [32])) := by
    unfold Few2
    rw [show (textL (Lib.join (xs.map (·.data.toList)) [32])).size = (Lib.join (xs.map (·.data.toList)) [32]).length from rfl]
    omega
  have hjs : x.size + 1 + (textL (Lib.join (xs.map (·.data.toList)) [32])).size ≤ 30001 := line_len2 hsz
  generalize textL (Lib.join (xs.map (·.data.toList)) [32]) = jb at C38 LT f4 hjs
  have f1 : Few2 x := by unfold Few2; omega
  have f2 : Few2 ⟨#[32]⟩ := by unfold Few2; decide
  have hx1 : (x ++ (⟨#[32]⟩ : ByteArray)).size = x.size + 1 := by rw [ByteArray.size_append]; rfl
  have f3 : Few2 (x ++ ⟨#[32]⟩) := by unfold Few2; omega
  have hts : (x ++ ⟨#[32]⟩ ++ jb).size ≤ 40000 := by
    rw [ByteArray.size_append]
    have h32 : (⟨#[32]⟩ : ByteArray).size = 1 := rfl
    first
      | omega
      | (rw [ByteArray.size_append]; omega)
  rw [LT.out ()] at HACC
  clear hsz hjl hx1
  obtain ⟨tB, htB⟩ : ∃ tB, x ++ ⟨#[32]⟩ ++ jb = tB := ⟨_, rfl⟩
  rw [htB] at HACC hts LT
  have C41 := hide (fun wx (hb : Below W.heap.size W wx) => parse_badW tB wx hts HACC (VB.out wx hb).l (VB.out wx hb).m)
  rw [← htB] at C41
  have C40 := hide (fun wx (hb : Below W.heap.size W wx) => must40_bad 3 0 ⟨#[]⟩ ⟨#[]⟩ ⟨#[]⟩ ⟨#[]⟩ wx (VB.out wx hb).e)
  clear HACC hts hjs htB LT
  go_enter Tryz.func15, Tryz.ntmps15
  go_upto_region 1 with fail
  rw [HW.out]
  refine wp_region_held_drew (S := fun wx => wx.cell? ⟨w.heap.size, 0, none⟩ = some (.string x) ∧ wx.cell? ⟨w.heap.size, 1, none⟩ = some (.slice p xs.length cp) ∧ wx.cell? ⟨w.heap.size, 2, none⟩ = some (.int .i64 z) ∧ wx.cell? ⟨db, 1, none⟩ = some (.pointer (some ⟨sb, 0, none⟩))) (by kernel_rfl) (KB.out _ (Below.refl _ _).drew) (fun _ => ?_)
  refine wpAnyH_take (i := 0) (v := .pointer (some ⟨w.heap.size, 0, none⟩)) rfl (by kernel_rfl) (by kernel_rfl) (by kernel_rfl) (fun _ _ _ h => h) (Or.inl ⟨by rfl, fun wx hx => by simp [go_sem]⟩) (KB.out _ (by first | (with_reducible exact (Below.refl _ _).drew) | (with_reducible exact ((Below.refl _ _).alloc (Nat.le_refl _) _).drew) | (with_reducible exact (Below.refl _ _).alloc (Nat.le_refl _) _) | (with_reducible exact (Below.refl _ _).drew.alloc (Nat.le_refl _) _))) ?_
  refine wpAnyH_take (i := 1) (v := .string x) rfl (by kernel_rfl) (by kernel_rfl) (by kernel_rfl) (fun _ _ _ h => h) (Or.inl ⟨by rfl, fun wx hx => by simp [go_sem, hx]⟩) (KB.out _ (by first | (with_reducible exact (Below.refl _ _).drew) | (with_reducible exact ((Below.refl _ _).alloc (Nat.le_refl _) _).drew) | (with_reducible exact (Below.refl _ _).alloc (Nat.le_refl _) _) | (with_reducible exact (Below.refl _ _).drew.alloc (Nat.le_refl _) _))) ?_
  refine wpAnyH_take (i := 2) (v := .string (x ++ ⟨#[32]⟩)) rfl (by kernel_rfl) (by kernel_rfl) (by kernel_rfl) (fun _ _ _ h => h) (Or.inl ⟨by rfl, fun wx hx => by simp [go_sem, f1, f2]⟩) (KB.out _ (by first | (with_reducible exact (Below.refl _ _).drew) | (with_reducible exact ((Below.refl _ _).alloc (Nat.le_refl _) _).drew) | (with_reducible exact (Below.refl _ _).alloc (Nat.le_refl _) _) | (with_reducible exact (Below.refl _ _).drew.alloc (Nat.le_refl _) _))) ?_
  refine wpAnyH_take (i := 3) (v := .pointer (some ⟨w.heap.size, 1, none⟩)) rfl (by kernel_rfl) (by kernel_rfl) (by kernel_rfl) (fun _ _ _ h => h) (Or.inl ⟨by rfl, fun wx hx => by simp [go_sem]⟩) (KB.out _ (by first | (with_reducible exact (Below.refl _ _).drew) | (with_reducible exact ((Below.refl _ _).alloc (Nat.le_refl _) _).drew) | (with_reducible exact (Below.refl _ _).alloc (Nat.le_refl _) _) | (with_reducible exact (Below.refl _ _).drew.alloc (Nat.le_refl _) _))) ?_
  refine wpAnyH_take (i := 4) (v := .slice p xs.length cp) rfl (by kernel_rfl) (by kernel_rfl) (by kernel_rfl) (fun _ _ _ h => h) (Or.inl ⟨by rfl, fun wx hx => by simp [go_sem, hx]⟩) (KB.out _ (by first | (with_reducible exact (Below.refl _ _).drew) | (with_reducible exact ((Below.refl _ _).alloc (Nat.le_refl _) _).drew) | (with_reducible exact (Below.refl _ _).alloc (Nat.le_refl _) _) | (with_reducible exact (Below.refl _ _).drew.alloc (Nat.le_refl _) _))) ?_
  refine wpAnyH_all (rs := [5, 11]) (by kernel_rfl) (by simp) ?_
  intro i hi
  have hi2 : i = 5 ∨ i = 11 := by simpa using hi
  clear hi
  rcases hi2 with rfl | rfl
  · skip
    simp [wpOp, Oper.wp, Oper.upon, go_sem]
    refine Or.inl ((C38.out _ ?_).mono ?_)
    · first | (with_reducible exact (Below.refl _ _).drew) | (with_reducible exact ((Below.refl _ _).alloc (Nat.le_refl _) _).drew) | (with_reducible exact (Below.refl _ _).alloc (Nat.le_refl _) _) | (with_reducible exact (Below.refl _ _).drew.alloc (Nat.le_refl _) _)
    rintro y v0 ⟨rfl, hb0⟩
    have Bx0 : Hid (Below W.heap.size W v0) := hide (below_step (by first | (with_reducible exact (Below.refl _ _).drew) | (with_reducible exact ((Below.refl _ _).alloc (Nat.le_refl _) _).drew) | (with_reducible exact (Below.refl _ _).alloc (Nat.le_refl _) _) | (with_reducible exact (Below.refl _ _).drew.alloc (Nat.le_refl _) _)) hb0)
    clear hb0
    refine ⟨KB.out _ Bx0.out, ?_⟩
    refine wpAnyH_take (i := 6) (v := .string (x ++ ⟨#[32]⟩ ++ jb)) rfl (by kernel_rfl) (by kernel_rfl) (by kernel_rfl) (fun _ _ _ h => h) (Or.inl ⟨by rfl, fun wx hx => by simp [go_sem, f3, f4]⟩) (KB.out _ (by first | (with_reducible exact (Below.refl _ _).drew) | (with_reducible exact ((Below.refl _ _).alloc (Nat.le_refl _) _).drew) | (with_reducible exact (Below.refl _ _).alloc (Nat.le_refl _) _) | (with_reducible exact (Below.refl _ _).drew.alloc (Nat.le_refl _) _) | (with_reducible exact Bx0.out) | (with_reducible exact Bx0.out.alloc Bx0.out.size _))) ?_
    refine wpAnyH_all (rs := [7, 11]) (by kernel_rfl) (by simp) ?_
    intro i hi
    have hi2 : i = 7 ∨ i = 11 := by simpa using hi
    clear hi
    rcases hi2 with rfl | rfl
    · skip
      simp [wpOp, Oper.wp, Oper.upon, go_sem]
      refine Or.inl ((C41.out _ ?_).mono ?_)
      · first | (with_reducible exact (Below.refl _ _).drew) | (with_reducible exact ((Below.refl _ _).alloc (Nat.le_refl _) _).drew) | (with_reducible exact (Below.refl _ _).alloc (Nat.le_refl _) _) | (with_reducible exact (Below.refl _ _).drew.alloc (Nat.le_refl _) _) | (with_reducible exact Bx0.out) | (with_reducible exact Bx0.out.alloc Bx0.out.size _)
      rintro y v1 ⟨rfl, hb1⟩
      have Bx1 : Hid (Below W.heap.size W v1) := hide (below_step (by first | (with_reducible exact (Below.refl _ _).drew) | (with_reducible exact ((Below.refl _ _).alloc (Nat.le_refl _) _).drew) | (with_reducible exact (Below.refl _ _).alloc (Nat.le_refl _) _) | (with_reducible exact (Below.refl _ _).drew.alloc (Nat.le_refl _) _) | (with_reducible exact Bx0.out) | (with_reducible exact Bx0.out.alloc Bx0.out.size _)) hb1)
      clear hb1
      refine ⟨KB.out _ Bx1.out, ?_⟩
      refine wpAnyH_take (i := 8) (v := .agg #[.int .i64 0, .string ⟨#[]⟩, .string ⟨#[]⟩, .string ⟨#[]⟩, .string ⟨#[]⟩]) rfl (by kernel_rfl) (by kernel_rfl) (by kernel_rfl) (fun _ _ _ h => h) (Or.inl ⟨by rfl, fun wx hx => by simp [go_sem]⟩) (KB.out _ (by first | (with_reducible exact (Below.refl _ _).drew) | (with_reducible exact ((Below.refl _ _).alloc (Nat.le_refl _) _).drew) | (with_reducible exact (Below.refl _ _).alloc (Nat.le_refl _) _) | (with_reducible exact (Below.refl _ _).drew.alloc (Nat.le_refl _) _) | (with_reducible exact Bx1.out) | (with_reducible exact Bx1.out.alloc Bx1.out.size _))) ?_
      refine wpAnyH_take (i := 9) (v := .iface 25 (.int .i64 3)) rfl (by kernel_rfl) (by kernel_rfl) (by kernel_rfl) (fun _ _ _ h => h) (Or.inl ⟨by rfl, fun wx hx => by simp [go_sem]⟩) (KB.out _ (by first | (with_reducible exact (Below.refl _ _).drew) | (with_reducible exact ((Below.refl _ _).alloc (Nat.le_refl _) _).drew) | (with_reducible exact (Below.refl _ _).alloc (Nat.le_refl _) _) | (with_reducible exact (Below.refl _ _).drew.alloc (Nat.le_refl _) _) | (with_reducible exact Bx1.out) | (with_reducible exact Bx1.out.alloc Bx1.out.size _))) ?_
      refine wpAnyH_all (rs := [10, 11]) (by kernel_rfl) (by simp) ?_
      intro i hi
      have hi2 : i = 10 ∨ i = 11 := by simpa using hi
      clear hi
      rcases hi2 with rfl | rfl
      · skip
        simp [wpOp, Oper.wp, Oper.upon, go_sem]
        refine Or.inl ((C40.out _ ?_).mono ?_)
        · first | (with_reducible exact (Below.refl _ _).drew) | (with_reducible exact ((Below.refl _ _).alloc (Nat.le_refl _) _).drew) | (with_reducible exact (Below.refl _ _).alloc (Nat.le_refl _) _) | (with_reducible exact (Below.refl _ _).drew.alloc (Nat.le_refl _) _) | (with_reducible exact Bx1.out) | (with_reducible exact Bx1.out.alloc Bx1.out.size _)
        rintro y v2 ⟨rfl, hb2⟩
        have Bx2 : Hid (Below W.heap.size W v2) := hide (below_step (by first | (with_reducible exact (Below.refl _ _).drew) | (with_reducible exact ((Below.refl _ _).alloc (Nat.le_refl _) _).drew) | (with_reducible exact (Below.refl _ _).alloc (Nat.le_refl _) _) | (with_reducible exact (Below.refl _ _).drew.alloc (Nat.le_refl _) _) | (with_reducible exact Bx1.out) | (with_reducible exact Bx1.out.alloc Bx1.out.size _)) hb2)
        clear hb2
        dsimp only [thrown]
        exact ⟨rfl, FIN.out v2 Bx2.out⟩
      · skip
        simp [wpOp, Oper.wp, Oper.upon, go_sem]
        refine Or.inl ⟨KB.out _ (by first | (with_reducible exact (Below.refl _ _).drew) | (with_reducible exact ((Below.refl _ _).alloc (Nat.le_refl _) _).drew) | (with_reducible exact (Below.refl _ _).alloc (Nat.le_refl _) _) | (with_reducible exact (Below.refl _ _).drew.alloc (Nat.le_refl _) _) | (with_reducible exact Bx1.out) | (with_reducible exact Bx1.out.alloc Bx1.out.size _)), ?_⟩
        refine wpAnyH_all (rs := [10]) (by kernel_rfl) (by simp) ?_
        intro i hi
        obtain rfl : i = 10 := by simpa using hi
        clear hi
        simp [wpOp, Oper.wp, Oper.upon, go_sem]
        refine Or.inl ((C40.out _ ?_).mono ?_)
        · first | (with_reducible exact (Below.refl _ _).drew) | (with_reducible exact ((Below.refl _ _).alloc (Nat.le_refl _) _).drew) | (with_reducible exact (Below.refl _ _).alloc (Nat.le_refl _) _) | (with_reducible exact (Below.refl _ _).drew.alloc (Nat.le_refl _) _) | (with_reducible exact Bx1.out) | (with_reducible exact Bx1.out.alloc Bx1.out.size _)
        rintro y v2 ⟨rfl, hb2⟩
        have Bx2 : Hid (Below W.heap.size W v2) := hide (below_step (by first | (with_reducible exact (Below.refl _ _).drew) | (with_reducible exact ((Below.refl _ _).alloc (Nat.le_refl _) _).drew) | (with_reducible exact (Below.refl _ _).alloc (Nat.le_refl _) _) | (with_reducible exact (Below.refl _ _).drew.alloc (Nat.le_refl _) _) | (with_reducible exact Bx1.out) | (with_reducible exact Bx1.out.alloc Bx1.out.size _)) hb2)
        clear hb2
        dsimp only [thrown]
        exact ⟨rfl, FIN.out v2 Bx2.out⟩
    · skip
      simp [wpOp, Oper.wp, Oper.upon, go_sem]
      refine Or.inl ⟨KB.out _ (by first | (with_reducible exact (Below.refl _ _).drew) | (with_reducible exact ((Below.refl _ _).alloc (Nat.le_refl _) _).drew) | (with_reducible exact (Below.refl _ _).alloc (Nat.le_refl _) _) | (with_reducible exact (Below.refl _ _).drew.alloc (Nat.le_refl _) _) | (with_reducible exact Bx0.out) | (with_reducible exact Bx0.out.alloc Bx0.out.size _)), ?_⟩
      refine wpAnyH_all (rs := [7]) (by kernel_rfl) (by simp) ?_
      intro i hi
      obtain rfl : i = 7 := by simpa using hi
      clear hi
      simp [wpOp, Oper.wp, Oper.upon, go_sem]
      refine Or.inl ((C41.out _ ?_).mono ?_)
      · first | (with_reducible exact (Below.refl _ _).drew) | (with_reducible exact ((Below.refl _ _).alloc (Nat.le_refl _) _).drew) | (with_reducible exact (Below.refl _ _).alloc (Nat.le_refl _) _) | (with_reducible exact (Below.refl _ _).drew.alloc (Nat.le_refl _) _) | (with_reducible exact Bx0.out) | (with_reducible exact Bx0.out.alloc Bx0.out.size _)
      rintro y v1 ⟨rfl, hb1⟩
      have Bx1 : Hid (Below W.heap.size W v1) := hide (below_step (by first | (with_reducible exact (Below.refl _ _).drew) | (with_reducible exact ((Below.refl _ _).alloc (Nat.le_refl _) _).drew) | (with_reducible exact (Below.refl _ _).alloc (Nat.le_refl _) _) | (with_reducible exact (Below.refl _ _).drew.alloc (Nat.le_refl _) _) | (with_reducible exact Bx0.out) | (with_reducible exact Bx0.out.alloc Bx0.out.size _)) hb1)
      clear hb1
      refine ⟨KB.out _ Bx1.out, ?_⟩
      refine wpAnyH_take (i := 8) (v := .agg #[.int .i64 0, .string ⟨#[]⟩, .string ⟨#[]⟩, .string ⟨#[]⟩, .string ⟨#[]⟩]) rfl (by kernel_rfl) (by kernel_rfl) (by kernel_rfl) (fun _ _ _ h => h) (Or.inl ⟨by rfl, fun wx hx => by simp [go_sem]⟩) (KB.out _ (by first | (with_reducible exact (Below.refl _ _).drew) | (with_reducible exact ((Below.refl _ _).alloc (Nat.le_refl _) _).drew) | (with_reducible exact (Below.refl _ _).alloc (Nat.le_refl _) _) | (with_reducible exact (Below.refl _ _).drew.alloc (Nat.le_refl _) _) | (with_reducible exact Bx1.out) | (with_reducible exact Bx1.out.alloc Bx1.out.size _))) ?_
      refine wpAnyH_take (i := 9) (v := .iface 25 (.int .i64 3)) rfl (by kernel_rfl) (by kernel_rfl) (by kernel_rfl) (fun _ _ _ h => h) (Or.inl ⟨by rfl, fun wx hx => by simp [go_sem]⟩) (KB.out _ (by first | (with_reducible exact (Below.refl _ _).drew) | (with_reducible exact ((Below.refl _ _).alloc (Nat.le_refl _) _).drew) | (with_reducible exact (Below.refl _ _).alloc (Nat.le_refl _) _) | (with_reducible exact (Below.refl _ _).drew.alloc (Nat.le_refl _) _) | (with_reducible exact Bx1.out) | (with_reducible exact Bx1.out.alloc Bx1.out.size _))) ?_
      refine wpAnyH_all (rs := [10]) (by kernel_rfl) (by simp) ?_
      intro i hi
      obtain rfl : i = 10 := by simpa using hi
      clear hi
      simp [wpOp, Oper.wp, Oper.upon, go_sem]
      refine Or.inl ((C40.out _ ?_).mono ?_)
      · first | (with_reducible exact (Below.refl _ _).drew) | (with_reducible exact ((Below.refl _ _).alloc (Nat.le_refl _) _).drew) | (with_reducible exact (Below.refl _ _).alloc (Nat.le_refl _) _) | (with_reducible exact (Below.refl _ _).drew.alloc (Nat.le_refl _) _) | (with_reducible exact Bx1.out) | (with_reducible exact Bx1.out.alloc Bx1.out.size _)
      rintro y v2 ⟨rfl, hb2⟩
      have Bx2 : Hid (Below W.heap.size W v2) := hide (below_step (by first | (with_reducible exact (Below.refl _ _).drew) | (with_reducible exact ((Below.refl _ _).alloc (Nat.le_refl _) _).drew) | (with_reducible exact (Below.refl _ _).alloc (Nat.le_refl _) _) | (with_reducible exact (Below.refl _ _).drew.alloc (Nat.le_refl _) _) | (with_reducible exact Bx1.out) | (with_reducible exact Bx1.out.alloc Bx1.out.size _)) hb2)
      clear hb2
      dsimp only [thrown]
      exact ⟨rfl, FIN.out v2 Bx2.out⟩
  · skip
    simp [wpOp, Oper.wp, Oper.upon, go_sem]
    refine Or.inl ⟨KB.out _ (by first | (with_reducible exact (Below.refl _ _).drew) | (with_reducible exact ((Below.refl _ _).alloc (Nat.le_refl _) _).drew) | (with_reducible exact (Below.refl _ _).alloc (Nat.le_refl _) _) | (with_reducible exact (Below.refl _ _).drew.alloc (Nat.le_refl _) _)), ?_⟩
    refine wpAnyH_all (rs := [5]) (by kernel_rfl) (by simp) ?_
    intro i hi
    obtain rfl : i = 5 := by simpa using hi
    clear hi
    simp [wpOp, Oper.wp, Oper.upon, go_sem]
    refine Or.inl ((C38.out _ ?_).mono ?_)
    · first | (with_reducible exact (Below.refl _ _).drew) | (with_reducible exact ((Below.refl _ _).alloc (Nat.le_refl _) _).drew) | (with_reducible exact (Below.refl _ _).alloc (Nat.le_refl _) _) | (with_reducible exact (Below.refl _ _).drew.alloc (Nat.le_refl _) _)
    rintro y v0 ⟨rfl, hb0⟩
    have Bx0 : Hid (Below W.heap.size W v0) := hide (below_step (by first | (with_reducible exact (Below.refl _ _).drew) | (with_reducible exact ((Below.refl _ _).alloc (Nat.le_refl _) _).drew) | (with_reducible exact (Below.refl _ _).alloc (Nat.le_refl _) _) | (with_reducible exact (Below.refl _ _).drew.alloc (Nat.le_refl _) _)) hb0)
    clear hb0
    refine ⟨KB.out _ Bx0.out, ?_⟩
    refine wpAnyH_take (i := 6) (v := .string (x ++ ⟨#[32]⟩ ++ jb)) rfl (by kernel_rfl) (by kernel_rfl) (by kernel_rfl) (fun _ _ _ h => h) (Or.inl ⟨by rfl, fun wx hx => by simp [go_sem, f3, f4]⟩) (KB.out _ (by first | (with_reducible exact (Below.refl _ _).drew) | (with_reducible exact ((Below.refl _ _).alloc (Nat.le_refl _) _).drew) | (with_reducible exact (Below.refl _ _).alloc (Nat.le_refl _) _) | (with_reducible exact (Below.refl _ _).drew.alloc (Nat.le_refl _) _) | (with_reducible exact Bx0.out) | (with_reducible exact Bx0.out.alloc Bx0.out.size _))) ?_
    refine wpAnyH_all (rs := [7]) (by kernel_rfl) (by simp) ?_
    intro i hi
    obtain rfl : i = 7 := by simpa using hi
    clear hi
    simp [wpOp, Oper.wp, Oper.upon, go_sem]
    refine Or.inl ((C41.out _ ?_).mono ?_)
    · first | (with_reducible exact (Below.refl _ _).drew) | (with_reducible exact ((Below.refl _ _).alloc (Nat.le_refl _) _).drew) | (with_reducible exact (Below.refl _ _).alloc (Nat.le_refl _) _) | (with_reducible exact (Below.refl _ _).drew.alloc (Nat.le_refl _) _) | (with_reducible exact Bx0.out) | (with_reducible exact Bx0.out.alloc Bx0.out.size _)
    rintro y v1 ⟨rfl, hb1⟩
    have Bx1 : Hid (Below W.heap.size W v1) := hide (below_step (by first | (with_reducible exact (Below.refl _ _).drew) | (with_reducible exact ((Below.refl _ _).alloc (Nat.le_refl _) _).drew) | (with_reducible exact (Below.refl _ _).alloc (Nat.le_refl _) _) | (with_reducible exact (Below.refl _ _).drew.alloc (Nat.le_refl _) _) | (with_reducible exact Bx0.out) | (with_reducible exact Bx0.out.alloc Bx0.out.size _)) hb1)
    clear hb1
    refine ⟨KB.out _ Bx1.out, ?_⟩
    refine wpAnyH_take (i := 8) (v := .agg #[.int .i64 0, .string ⟨#[]⟩, .string ⟨#[]⟩, .string ⟨#[]⟩, .string ⟨#[]⟩]) rfl (by kernel_rfl) (by kernel_rfl) (by kernel_rfl) (fun _ _ _ h => h) (Or.inl ⟨by rfl, fun wx hx => by simp [go_sem]⟩) (KB.out _ (by first | (with_reducible exact (Below.refl _ _).drew) | (with_reducible exact ((Below.refl _ _).alloc (Nat.le_refl _) _).drew) | (with_reducible exact (Below.refl _ _).alloc (Nat.le_refl _) _) | (with_reducible exact (Below.refl _ _).drew.alloc (Nat.le_refl _) _) | (with_reducible exact Bx1.out) | (with_reducible exact Bx1.out.alloc Bx1.out.size _))) ?_
    refine wpAnyH_take (i := 9) (v := .iface 25 (.int .i64 3)) rfl (by kernel_rfl) (by kernel_rfl) (by kernel_rfl) (fun _ _ _ h => h) (Or.inl ⟨by rfl, fun wx hx => by simp [go_sem]⟩) (KB.out _ (by first | (with_reducible exact (Below.refl _ _).drew) | (with_reducible exact ((Below.refl _ _).alloc (Nat.le_refl _) _).drew) | (with_reducible exact (Below.refl _ _).alloc (Nat.le_refl _) _) | (with_reducible exact (Below.refl _ _).drew.alloc (Nat.le_refl _) _) | (with_reducible exact Bx1.out) | (with_reducible exact Bx1.out.alloc Bx1.out.size _))) ?_
    refine wpAnyH_all (rs := [10]) (by kernel_rfl) (by simp) ?_
    intro i hi
    obtain rfl : i = 10 := by simpa using hi
    clear hi
    simp [wpOp, Oper.wp, Oper.upon, go_sem]
    refine Or.inl ((C40.out _ ?_).mono ?_)
    · first | (with_reducible exact (Below.refl _ _).drew) | (with_reducible exact ((Below.refl _ _).alloc (Nat.le_refl _) _).drew) | (with_reducible exact (Below.refl _ _).alloc (Nat.le_refl _) _) | (with_reducible exact (Below.refl _ _).drew.alloc (Nat.le_refl _) _) | (with_reducible exact Bx1.out) | (with_reducible exact Bx1.out.alloc Bx1.out.size _)
    rintro y v2 ⟨rfl, hb2⟩
    have Bx2 : Hid (Below W.heap.size W v2) := hide (below_step (by first | (with_reducible exact (Below.refl _ _).drew) | (with_reducible exact ((Below.refl _ _).alloc (Nat.le_refl _) _).drew) | (with_reducible exact (Below.refl _ _).alloc (Nat.le_refl _) _) | (with_reducible exact (Below.refl _ _).drew.alloc (Nat.le_refl _) _) | (with_reducible exact Bx1.out) | (with_reducible exact Bx1.out.alloc Bx1.out.size _)) hb2)
    clear hb2
    dsimp only [thrown]
    exact ⟨rfl, FIN.out v2 Bx2.out⟩
set_option maxRecDepth 100000 in
set_option maxHeartbeats 4000000 in
theorem happen_why (db : Nat) (s : DeskS) (w : World) (x : ByteArray) (v : Value) (xs : List ByteArray) (z : Int) (hD : Desk db s w) (hV : Vars w) (hP : LineW w v xs) (hsz : ((x :: xs).map fun y => y.size + 1).sum ≤ 30001) (HACC : accB (textL (lineL x xs)) (splitEv (textL (lineL x xs))) = true) (hno : refuseB s.h.τ (splitEv (textL (lineL x xs))) ≠ 0 ∨ 100 ≤ s.h.rs.length ∨ ((splitEv (textL (lineL x xs))).k = 3 ∧ (s.h.σ (splitEv (textL (lineL x xs))).s.data.toList).2 = false)) :
    Calls Tryz.prog 15 #[.pointer (some ⟨db, 0, none⟩), .agg #[.string x, v, .int .i64 z]] w fun e w' => OutD db s 15 x xs z w e w' := by
  obtain ⟨κ, B, ob, sb, fb, vb, mt, mv, vf, rm, ρ, c3, c4, c5, c6, h⟩ := hD
  obtain ⟨hP1, p, cp, rfl, hcp⟩ := hP
  have hx := (size_words hsz).1
  have X0 := hide (HasR.new w 65 #[.string x, .slice p xs.length cp, .int .i64 z])
  have B0 := hide ((Below.refl w.heap.size w).alloc (Nat.le_refl _) (.cells #[.string x, .slice p xs.length cp, .int .i64 z] 65))
  obtain ⟨W, hW⟩ : ∃ W, w.alloc (.cells #[.string x, .slice p xs.length cp, .int .i64 z] 65) = W := ⟨_, rfl⟩
  rw [hW] at X0 B0
  have HW := hide hW
  have HD := hide (h.still B0.out)
  have h11 := hV.n
  have _hk11 := lowK_le
  have HV := hide (hV.low (B0.out.mono h11) B0.out.size)
  have hlS : s.h.ok.length ≤ 100 := h.good.len
  have hrl : s.h.rs.length = s.h.ok.length := h.good.did.both
  have VB : Hid (∀ wx, Below W.heap.size W wx → Vars wx) := hide fun wx hb => HV.out.low (hb.mono HV.out.n) hb.size
  have KB : Hid (∀ wx, Below W.heap.size W wx → wx.cell? ⟨w.heap.size, 0, none⟩ = some (.string x) ∧ wx.cell? ⟨w.heap.size, 1, none⟩ = some (.slice p xs.length cp) ∧ wx.cell? ⟨w.heap.size, 2, none⟩ = some (.int .i64 z) ∧ wx.cell? ⟨db, 1, none⟩ = some (.pointer (some ⟨sb, 0, none⟩))) := hide fun wx hb =>
    have X := X0.out.below hb X0.out.lt
    ⟨X.cell 0, X.cell 1, X.cell 2, (HD.out.still hb).desk.cell 1⟩
  obtain ⟨k0, k1, k2, k3⟩ := KB.out W (Below.refl _ _)
  have HH := hide h
  have HP := hide hP1
  have LW : Hid (Parts W (.slice p xs.length cp) xs) := hide (hP1.below B0.out rfl)
  clear h hW hP1
  have hjl := line_len hsz
  have hxl := len_words hsz
  have C38 : Hid (∀ wx, Below W.heap.size W wx → Calls Tryz.prog 38 #[.slice p xs.length cp, .string ⟨#[32]⟩] wx fun e w' => e = .returned (.string (textL (Lib.join (xs.map (·.data.toList)) [32]))) ∧ Below wx.heap.size wx w') := hide (fun wx hb => join_words (LW.out.below hb rfl) hcp (by omega) (by omega))
  have LT := hide (fun _ : Unit => line_text x xs)
  have f4 : Few2 (textL (Lib.join (xs.map (·.data.toList)) [32])) := by
    unfold Few2
    rw [show (textL (Lib.join (xs.map (·.data.toList)) [32])).size = (Lib.join (xs.map (·.data.toList)) [32]).length from rfl]
    omega
  have hjs : x.size + 1 + (textL (Lib.join (xs.map (·.data.toList)) [32])).size ≤ 30001 := line_len2 hsz
  generalize textL (Lib.join (xs.map (·.data.toList)) [32]) = jb at C38 LT f4 hjs
  have f1 : Few2 x := by unfold Few2; omega
  have f2 : Few2 ⟨#[32]⟩ := by unfold Few2; decide
  have hx1 : (x ++ (⟨#[32]⟩ : ByteArray)).size = x.size + 1 := by rw [ByteArray.size_append]; rfl
  have f3 : Few2 (x ++ ⟨#[32]⟩) := by unfold Few2; omega
  have hts : (x ++ ⟨#[32]⟩ ++ jb).size ≤ 40000 := by
    rw [ByteArray.size_append]
    have h32 : (⟨#[32]⟩ : ByteArray).size = 1 := rfl
    first
      | omega
      | (rw [ByteArray.size_append]; omega)
  rw [LT.out ()] at HACC
  clear hsz hjl hx1
  obtain ⟨tB, htB⟩ : ∃ tB, x ++ ⟨#[32]⟩ ++ jb = tB := ⟨_, rfl⟩
  rw [LT.out ()] at hno
  rw [htB] at HACC hts LT hno
  have hacc : accB tB (splitEv tB) = true := HACC
  have hright := (acc_of hacc).1
  have C41 := hide (fun wx (hb : Below W.heap.size W wx) => parse_okW tB wx hts hacc (VB.out wx hb).l (VB.out wx hb).m)
  obtain ⟨ev, hev⟩ : ∃ ev, splitEv tB = ev := ⟨_, rfl⟩
  have HEV := hide (fun _ : Unit => hev)
  rw [hev] at C41 hright hno
  have HACC2 := hide (fun _ : Unit => hacc)
  rw [← htB] at C41
  clear htB
  clear hev hacc HACC hts hjs
  have HRT := hide hright
  clear hright
  have C40 := hide (fun wx => must40_ok ev.k ev.s ev.t ev.r ev.v wx)
  go_enter Tryz.func15, Tryz.ntmps15
  go_upto_region 1 with fail
  rw [HW.out]
  have hl0 := X0.out.lt
  go_cut [5] (fun s5 wx => ∃ be : Nat, s5 = .pointer (some ⟨be, 0, none⟩) ∧ W.heap.size ≤ be ∧ HasR wx be 69 #[.int .i64 ev.k, .string ev.s, .string ev.t, .string ev.r, .string ev.v] ∧ Below W.heap.size W wx)
  case first =>
    go_region_held3 (fun wx => wx.cell? ⟨w.heap.size, 0, none⟩ = some (.string x) ∧ wx.cell? ⟨w.heap.size, 1, none⟩ = some (.slice p xs.length cp) ∧ wx.cell? ⟨w.heap.size, 2, none⟩ = some (.int .i64 z) ∧ wx.cell? ⟨db, 1, none⟩ = some (.pointer (some ⟨sb, 0, none⟩))) ((refine KB.out _ ?_; first | (with_reducible exact (Below.refl _ _).drew) | (with_reducible exact ((Below.refl _ _).alloc (Nat.le_refl _) _).drew) | (with_reducible exact B2.out) | (with_reducible exact B3.out) | (with_reducible exact B4.out) | (with_reducible exact B2.out.alloc B2.out.size _) | (with_reducible exact B3.out.alloc B3.out.size _) | (with_reducible exact B4.out.alloc B4.out.size _) | (with_reducible exact below_five B4.out (Nat.le_refl _) _ _ _ _ _) | (with_reducible exact below_five B4.out hs2 _ _ _ _ _) | (with_reducible exact below_five B4.out hs3 _ _ _ _ _)))
      (first
      | (go_at_call 38; (with_reducible refine (C38.out (W.alloc (.cells #[.int .i64 0, .string ⟨#[]⟩, .string ⟨#[]⟩, .string ⟨#[]⟩, .string ⟨#[]⟩] 69)).drew ((Below.refl _ W).alloc (Nat.le_refl _) _).drew).mono ?_); rintro y w2 ⟨rfl, hb2⟩; have B2 : Hid (Below W.heap.size W w2) := hide (below_step ((Below.refl _ W).alloc (Nat.le_refl _) _).drew hb2); have XA := hide ((HasR.new W 69 #[.int .i64 0, .string ⟨#[]⟩, .string ⟨#[]⟩, .string ⟨#[]⟩, .string ⟨#[]⟩]).drew.below hb2 (HasR.new W 69 _).drew.lt); have hs2 := B2.out.size; clear hb2)
      | (go_at_call 38; (with_reducible refine (C38.out W.drew (Below.refl _ W).drew).mono ?_); rintro y w2 ⟨rfl, hb2⟩; have B2 : Hid (Below W.heap.size W w2) := hide (below_step (Below.refl _ W).drew hb2); have hs2 := B2.out.size; clear hb2)
      | (go_at_call 41; (with_reducible refine (C41.out w2 B2.out).mono ?_); rintro y w3 ⟨rfl, hb3⟩; have B3 : Hid (Below W.heap.size W w3) := hide (below_step B2.out hb3); have XB := hide (XA.out.below hb3 XA.out.lt); have hs3 := B3.out.size; clear hb3)
      | (go_at_call 41; (with_reducible refine (C41.out w2 B2.out).mono ?_); rintro y w3 ⟨rfl, hb3⟩; have B3 : Hid (Below W.heap.size W w3) := hide (below_step B2.out hb3); have hs3 := B3.out.size; clear hb3)
      | (go_at_call 41; (with_reducible refine (C41.out (w2.alloc (.cells #[.int .i64 0, .string ⟨#[]⟩, .string ⟨#[]⟩, .string ⟨#[]⟩, .string ⟨#[]⟩] 69)) (B2.out.alloc B2.out.size _)).mono ?_); rintro y w3 ⟨rfl, hb3⟩; have B3 : Hid (Below W.heap.size W w3) := hide (below_step (B2.out.alloc B2.out.size _) hb3); have XC := hide ((HasR.new w2 69 #[.int .i64 0, .string ⟨#[]⟩, .string ⟨#[]⟩, .string ⟨#[]⟩, .string ⟨#[]⟩]).below hb3 (HasR.new w2 69 _).lt); have hs3 := B3.out.size; clear hb3)
      | (go_at_call 40; (with_reducible refine (C40.out w3).mono ?_); rintro y w4 ⟨rfl, hb4⟩; have B4 : Hid (Below W.heap.size W w4) := hide (below_step B3.out hb4); have XD := hide (XB.out.below hb4 XB.out.lt); have z0 : w4.cell? ⟨W.heap.size, 0, none⟩ = some (.int .i64 0) := XD.out.cell 0; have z1 : w4.cell? ⟨W.heap.size, 1, none⟩ = some (.string ⟨#[]⟩) := XD.out.cell 1; have z2 : w4.cell? ⟨W.heap.size, 2, none⟩ = some (.string ⟨#[]⟩) := XD.out.cell 2; have z3 : w4.cell? ⟨W.heap.size, 3, none⟩ = some (.string ⟨#[]⟩) := XD.out.cell 3; have z4 : w4.cell? ⟨W.heap.size, 4, none⟩ = some (.string ⟨#[]⟩) := XD.out.cell 4; have o0 : w4.frozen? ⟨W.heap.size, 0, none⟩ = false := XD.out.free 0; have o1 : w4.frozen? ⟨W.heap.size, 1, none⟩ = false := XD.out.free 1; have o2 : w4.frozen? ⟨W.heap.size, 2, none⟩ = false := XD.out.free 2; have o3 : w4.frozen? ⟨W.heap.size, 3, none⟩ = false := XD.out.free 3; have o4 : w4.frozen? ⟨W.heap.size, 4, none⟩ = false := XD.out.free 4; clear hb4)
      | (go_at_call 40; (with_reducible refine (C40.out w3).mono ?_); rintro y w4 ⟨rfl, hb4⟩; have B4 : Hid (Below W.heap.size W w4) := hide (below_step B3.out hb4); have XE := hide (XC.out.below hb4 XC.out.lt); have z0 : w4.cell? ⟨w2.heap.size, 0, none⟩ = some (.int .i64 0) := XE.out.cell 0; have z1 : w4.cell? ⟨w2.heap.size, 1, none⟩ = some (.string ⟨#[]⟩) := XE.out.cell 1; have z2 : w4.cell? ⟨w2.heap.size, 2, none⟩ = some (.string ⟨#[]⟩) := XE.out.cell 2; have z3 : w4.cell? ⟨w2.heap.size, 3, none⟩ = some (.string ⟨#[]⟩) := XE.out.cell 3; have z4 : w4.cell? ⟨w2.heap.size, 4, none⟩ = some (.string ⟨#[]⟩) := XE.out.cell 4; have o0 : w4.frozen? ⟨w2.heap.size, 0, none⟩ = false := XE.out.free 0; have o1 : w4.frozen? ⟨w2.heap.size, 1, none⟩ = false := XE.out.free 1; have o2 : w4.frozen? ⟨w2.heap.size, 2, none⟩ = false := XE.out.free 2; have o3 : w4.frozen? ⟨w2.heap.size, 3, none⟩ = false := XE.out.free 3; have o4 : w4.frozen? ⟨w2.heap.size, 4, none⟩ = false := XE.out.free 4; clear hb4)
      | (go_at_call 40; (with_reducible refine (C40.out w3).mono ?_); rintro y w4 ⟨rfl, hb4⟩; have B4 : Hid (Below W.heap.size W w4) := hide (below_step B3.out hb4); have hs4 := B4.out.size; clear hb4)
      | (go_at_call 40; (with_reducible refine (C40.out (w3.alloc (.cells #[.int .i64 0, .string ⟨#[]⟩, .string ⟨#[]⟩, .string ⟨#[]⟩, .string ⟨#[]⟩] 69))).mono ?_); rintro y w4 ⟨rfl, hb4⟩; have B4 : Hid (Below W.heap.size W w4) := hide (below_step (B3.out.alloc B3.out.size _) hb4); have XF := hide ((HasR.new w3 69 #[.int .i64 0, .string ⟨#[]⟩, .string ⟨#[]⟩, .string ⟨#[]⟩, .string ⟨#[]⟩]).below hb4 (HasR.new w3 69 _).lt); have z0 : w4.cell? ⟨w3.heap.size, 0, none⟩ = some (.int .i64 0) := XF.out.cell 0; have z1 : w4.cell? ⟨w3.heap.size, 1, none⟩ = some (.string ⟨#[]⟩) := XF.out.cell 1; have z2 : w4.cell? ⟨w3.heap.size, 2, none⟩ = some (.string ⟨#[]⟩) := XF.out.cell 2; have z3 : w4.cell? ⟨w3.heap.size, 3, none⟩ = some (.string ⟨#[]⟩) := XF.out.cell 3; have z4 : w4.cell? ⟨w3.heap.size, 4, none⟩ = some (.string ⟨#[]⟩) := XF.out.cell 4; have o0 : w4.frozen? ⟨w3.heap.size, 0, none⟩ = false := XF.out.free 0; have o1 : w4.frozen? ⟨w3.heap.size, 1, none⟩ = false := XF.out.free 1; have o2 : w4.frozen? ⟨w3.heap.size, 2, none⟩ = false := XF.out.free 2; have o3 : w4.frozen? ⟨w3.heap.size, 3, none⟩ = false := XF.out.free 3; have o4 : w4.frozen? ⟨w3.heap.size, 4, none⟩ = false := XF.out.free 4; clear hb4))
    all_goals
      go_wp2
      go_meet
      first
        | exact ⟨W.heap.size, rfl, Nat.le_refl _, HasR.five XD.out _ _ _ _ _, below_five B4.out (Nat.le_refl _) _ _ _ _ _⟩
        | exact ⟨w2.heap.size, rfl, hs2, HasR.five XE.out _ _ _ _ _, below_five B4.out hs2 _ _ _ _ _⟩
        | exact ⟨w3.heap.size, rfl, hs3, HasR.five XF.out _ _ _ _ _, below_five B4.out hs3 _ _ _ _ _⟩
        | exact ⟨w4.heap.size, rfl, B4.out.size, HasR.new w4 69 _, B4.out.alloc B4.out.size _⟩
  case rest =>
    obtain ⟨be, rfl, hbe, hXE, hB⟩ := hcut
    have XV := hide hXE
    have BC := hide hB
    have hsc := hB.size
    have DC := hide (HD.out.still hB)
    have VC := hide (VB.out wc hB)
    have nBE : Hid (be ∉ ownS sb fb vb mt mv vf) := hide (fun hm => by
      have := HD.out.src.oldO be hm
      omega)
    have lbe := hXE.lt
    have XXC := hide (X0.out.below hB X0.out.lt)
    clear hXE hB k0 k1 k2 k3 C38 C41 C40 f1 f2 f3 f4
    have nDB : Hid (db ∉ ownS sb fb vb mt mv vf) := hide (fun hm => by
      have h1 := HD.out.kS db hm
      rw [HD.out.kD] at h1
      cases h1)
    have KS2 : Hid (∀ wx, Stirred (ownS sb fb vb mt mv vf) wc wx → wx.cell? ⟨db, 1, none⟩ = some (.pointer (some ⟨sb, 0, none⟩)) ∧ wx.cell? ⟨be, 0, none⟩ = some (.int .i64 ev.k) ∧ wx.cell? ⟨be, 1, none⟩ = some (.string ev.s) ∧ wx.cell? ⟨be, 2, none⟩ = some (.string ev.t) ∧ wx.cell? ⟨be, 3, none⟩ = some (.string ev.r) ∧ wx.cell? ⟨be, 4, none⟩ = some (.string ev.v)) := hide (fun wx t =>
      have Y := XV.out.turned t nBE.out
      ⟨(DC.out.desk.turned t nDB.out).cell 1, Y.cell 0, Y.cell 1, Y.cell 2, Y.cell 3, Y.cell 4⟩)
    have KB2 : Hid (∀ wx, Below wc.heap.size wc wx → wx.cell? ⟨db, 1, none⟩ = some (.pointer (some ⟨sb, 0, none⟩)) ∧ wx.cell? ⟨be, 0, none⟩ = some (.int .i64 ev.k) ∧ wx.cell? ⟨be, 1, none⟩ = some (.string ev.s) ∧ wx.cell? ⟨be, 2, none⟩ = some (.string ev.t) ∧ wx.cell? ⟨be, 3, none⟩ = some (.string ev.r) ∧ wx.cell? ⟨be, 4, none⟩ = some (.string ev.v)) := hide (fun wx hb => KS2.out wx (Stirred.of_below hb _))
    obtain ⟨nn, hnn⟩ : ∃ nn, whyN s.h ev = nn := ⟨_, rfl⟩
    have hn100 : nn ≤ 100 := by
      rw [← hnn]
      unfold whyN
      split
      · rcases refuse_is s.h.τ ev with q | q | q <;> rw [q] <;> decide
      · split <;> omega
    have hHW := happ_why (LT.out ()) (HEV.out ()) (HACC2.out ()) hno
    rw [hnn] at hHW
    have FIN : Hid (∀ wx, Below wc.heap.size wc wx → OutD db s 15 x xs z w (thrown (nn : Int)) wx) := hide fun wx hb =>
      have bT := B0.out.trans ((BC.out.trans (hb.mono BC.out.size)).mono B0.out.size)
      ⟨.inl nn, .inr (.inl ⟨rfl, hHW.symm⟩), .inl ⟨nn, rfl, hn100, rfl, HH.out.same bT⟩, Quiet.of_below bT h11⟩
    have CDo := hide (fun wx (hb : Below wc.heap.size wc wx) => do_why (DC.out.src.still hb) ev HRT.out hno (VC.out.tabs.below hb VC.out.tabs.n))
    rw [hnn] at CDo
    have C42 := hide (fun wx (hb : Below wc.heap.size wc wx) => must42_bad (nn : Int) 0 ⟨#[]⟩ 0 ⟨#[]⟩ ⟨#[]⟩ wx ((VC.out.low (hb.mono VC.out.n) hb.size).e))
    obtain ⟨u0, u1, u2, u3, u4, u5⟩ := KB2.out wc (Below.refl _ _)
    clear hHW hnn hno hn100 KS2
    go_upto_region 2 with fail
    refine wp_region_held_drew (S := fun wx => wx.cell? ⟨db, 1, none⟩ = some (.pointer (some ⟨sb, 0, none⟩)) ∧ wx.cell? ⟨be, 0, none⟩ = some (.int .i64 ev.k) ∧ wx.cell? ⟨be, 1, none⟩ = some (.string ev.s) ∧ wx.cell? ⟨be, 2, none⟩ = some (.string ev.t) ∧ wx.cell? ⟨be, 3, none⟩ = some (.string ev.r) ∧ wx.cell? ⟨be, 4, none⟩ = some (.string ev.v)) (by kernel_rfl) (KB2.out _ (Below.refl _ _).drew) (fun _ => ?_)
    refine wpAnyH_take (i := 0) (v := .pointer (some ⟨db, 0, none⟩)) rfl (by kernel_rfl) (by kernel_rfl) (by kernel_rfl) (fun _ _ _ h => h) (Or.inl ⟨by rfl, fun wx hx => by simp [go_sem]⟩) (KB2.out _ (by first | (with_reducible exact (Below.refl _ _).drew) | (with_reducible exact ((Below.refl _ _).alloc (Nat.le_refl _) _).drew) | (with_reducible exact (Below.refl _ _).alloc (Nat.le_refl _) _) | (with_reducible exact (Below.refl _ _).drew.alloc (Nat.le_refl _) _))) ?_
    refine wpAnyH_take (i := 1) (v := .pointer (some ⟨db, 0, none⟩)) rfl (by kernel_rfl) (by kernel_rfl) (by kernel_rfl) (fun _ _ _ h => h) (Or.inl ⟨by rfl, fun wx hx => by simp [go_sem]⟩) (KB2.out _ (by first | (with_reducible exact (Below.refl _ _).drew) | (with_reducible exact ((Below.refl _ _).alloc (Nat.le_refl _) _).drew) | (with_reducible exact (Below.refl _ _).alloc (Nat.le_refl _) _) | (with_reducible exact (Below.refl _ _).drew.alloc (Nat.le_refl _) _))) ?_
    refine wpAnyH_take (i := 2) (v := .pointer (some ⟨db, 1, none⟩)) rfl (by kernel_rfl) (by kernel_rfl) (by kernel_rfl) (fun _ _ _ h => h) (Or.inl ⟨by rfl, fun wx hx => by simp [go_sem]⟩) (KB2.out _ (by first | (with_reducible exact (Below.refl _ _).drew) | (with_reducible exact ((Below.refl _ _).alloc (Nat.le_refl _) _).drew) | (with_reducible exact (Below.refl _ _).alloc (Nat.le_refl _) _) | (with_reducible exact (Below.refl _ _).drew.alloc (Nat.le_refl _) _))) ?_
    refine wpAnyH_take (i := 3) (v := .pointer (some ⟨sb, 0, none⟩)) rfl (by kernel_rfl) (by kernel_rfl) (by kernel_rfl) (fun _ _ _ h => h) (Or.inl ⟨by rfl, fun wx hx => by simp [go_sem, hx]⟩) (KB2.out _ (by first | (with_reducible exact (Below.refl _ _).drew) | (with_reducible exact ((Below.refl _ _).alloc (Nat.le_refl _) _).drew) | (with_reducible exact (Below.refl _ _).alloc (Nat.le_refl _) _) | (with_reducible exact (Below.refl _ _).drew.alloc (Nat.le_refl _) _))) ?_
    refine wpAnyH_take (i := 4) (v := .agg #[.int .i64 ev.k, .string ev.s, .string ev.t, .string ev.r, .string ev.v]) rfl (by kernel_rfl) (by kernel_rfl) (by kernel_rfl) (fun _ _ _ h => h) (Or.inl ⟨by rfl, fun wx hx => by simp [go_sem, hx]⟩) (KB2.out _ (by first | (with_reducible exact (Below.refl _ _).drew) | (with_reducible exact ((Below.refl _ _).alloc (Nat.le_refl _) _).drew) | (with_reducible exact (Below.refl _ _).alloc (Nat.le_refl _) _) | (with_reducible exact (Below.refl _ _).drew.alloc (Nat.le_refl _) _))) ?_
    refine wpAnyH_all (rs := [5, 9]) (by kernel_rfl) (by simp) ?_
    intro i hi
    have hi2 : i = 5 ∨ i = 9 := by simpa using hi
    clear hi
    rcases hi2 with rfl | rfl
    · skip
      simp [wpOp, Oper.wp, Oper.upon, go_sem]
      refine Or.inl ((CDo.out _ ?_).mono ?_)
      · first | (with_reducible exact (Below.refl _ _).drew) | (with_reducible exact ((Below.refl _ _).alloc (Nat.le_refl _) _).drew) | (with_reducible exact (Below.refl _ _).alloc (Nat.le_refl _) _) | (with_reducible exact (Below.refl _ _).drew.alloc (Nat.le_refl _) _)
      rintro y v0 ⟨rfl, hb0⟩
      have By0 : Hid (Below wc.heap.size wc v0) := hide (below_step (by first | (with_reducible exact (Below.refl _ _).drew) | (with_reducible exact ((Below.refl _ _).alloc (Nat.le_refl _) _).drew) | (with_reducible exact (Below.refl _ _).alloc (Nat.le_refl _) _) | (with_reducible exact (Below.refl _ _).drew.alloc (Nat.le_refl _) _)) hb0)
      clear hb0
      refine ⟨KB2.out _ By0.out, ?_⟩
      refine wpAnyH_take (i := 6) (v := .agg #[.int .i64 0, .string ⟨#[]⟩, .int .i64 0, .string ⟨#[]⟩, .string ⟨#[]⟩]) rfl (by kernel_rfl) (by kernel_rfl) (by kernel_rfl) (fun _ _ _ h => h) (Or.inl ⟨by rfl, fun wx hx => by simp [go_sem]⟩) (KB2.out _ (by first | (with_reducible exact (Below.refl _ _).drew) | (with_reducible exact ((Below.refl _ _).alloc (Nat.le_refl _) _).drew) | (with_reducible exact (Below.refl _ _).alloc (Nat.le_refl _) _) | (with_reducible exact (Below.refl _ _).drew.alloc (Nat.le_refl _) _) | (with_reducible exact By0.out) | (with_reducible exact By0.out.alloc By0.out.size _))) ?_
      refine wpAnyH_take (i := 7) (v := .iface 25 (.int .i64 (nn : Int))) rfl (by kernel_rfl) (by kernel_rfl) (by kernel_rfl) (fun _ _ _ h => h) (Or.inl ⟨by rfl, fun wx hx => by simp [go_sem]⟩) (KB2.out _ (by first | (with_reducible exact (Below.refl _ _).drew) | (with_reducible exact ((Below.refl _ _).alloc (Nat.le_refl _) _).drew) | (with_reducible exact (Below.refl _ _).alloc (Nat.le_refl _) _) | (with_reducible exact (Below.refl _ _).drew.alloc (Nat.le_refl _) _) | (with_reducible exact By0.out) | (with_reducible exact By0.out.alloc By0.out.size _))) ?_
      refine wpAnyH_all (rs := [8, 9]) (by kernel_rfl) (by simp) ?_
      intro i hi
      have hi2 : i = 8 ∨ i = 9 := by simpa using hi
      clear hi
      rcases hi2 with rfl | rfl
      · skip
        simp [wpOp, Oper.wp, Oper.upon, go_sem]
        refine Or.inl ((C42.out _ ?_).mono ?_)
        · first | (with_reducible exact (Below.refl _ _).drew) | (with_reducible exact ((Below.refl _ _).alloc (Nat.le_refl _) _).drew) | (with_reducible exact (Below.refl _ _).alloc (Nat.le_refl _) _) | (with_reducible exact (Below.refl _ _).drew.alloc (Nat.le_refl _) _) | (with_reducible exact By0.out) | (with_reducible exact By0.out.alloc By0.out.size _)
        rintro y v1 ⟨rfl, hb1⟩
        have By1 : Hid (Below wc.heap.size wc v1) := hide (below_step (by first | (with_reducible exact (Below.refl _ _).drew) | (with_reducible exact ((Below.refl _ _).alloc (Nat.le_refl _) _).drew) | (with_reducible exact (Below.refl _ _).alloc (Nat.le_refl _) _) | (with_reducible exact (Below.refl _ _).drew.alloc (Nat.le_refl _) _) | (with_reducible exact By0.out) | (with_reducible exact By0.out.alloc By0.out.size _)) hb1)
        clear hb1
        dsimp only [thrown]
        exact ⟨rfl, FIN.out v1 By1.out⟩
      · skip
        simp [wpOp, Oper.wp, Oper.upon, go_sem]
        refine Or.inl ⟨KB2.out _ (by first | (with_reducible exact (Below.refl _ _).drew) | (with_reducible exact ((Below.refl _ _).alloc (Nat.le_refl _) _).drew) | (with_reducible exact (Below.refl _ _).alloc (Nat.le_refl _) _) | (with_reducible exact (Below.refl _ _).drew.alloc (Nat.le_refl _) _) | (with_reducible exact By0.out) | (with_reducible exact By0.out.alloc By0.out.size _)), ?_⟩
        refine wpAnyH_all (rs := [8]) (by kernel_rfl) (by simp) ?_
        intro i hi
        obtain rfl : i = 8 := by simpa using hi
        clear hi
        simp [wpOp, Oper.wp, Oper.upon, go_sem]
        refine Or.inl ((C42.out _ ?_).mono ?_)
        · first | (with_reducible exact (Below.refl _ _).drew) | (with_reducible exact ((Below.refl _ _).alloc (Nat.le_refl _) _).drew) | (with_reducible exact (Below.refl _ _).alloc (Nat.le_refl _) _) | (with_reducible exact (Below.refl _ _).drew.alloc (Nat.le_refl _) _) | (with_reducible exact By0.out) | (with_reducible exact By0.out.alloc By0.out.size _)
        rintro y v1 ⟨rfl, hb1⟩
        have By1 : Hid (Below wc.heap.size wc v1) := hide (below_step (by first | (with_reducible exact (Below.refl _ _).drew) | (with_reducible exact ((Below.refl _ _).alloc (Nat.le_refl _) _).drew) | (with_reducible exact (Below.refl _ _).alloc (Nat.le_refl _) _) | (with_reducible exact (Below.refl _ _).drew.alloc (Nat.le_refl _) _) | (with_reducible exact By0.out) | (with_reducible exact By0.out.alloc By0.out.size _)) hb1)
        clear hb1
        dsimp only [thrown]
        exact ⟨rfl, FIN.out v1 By1.out⟩
    · skip
      simp [wpOp, Oper.wp, Oper.upon, go_sem]
      refine Or.inl ⟨KB2.out _ (by first | (with_reducible exact (Below.refl _ _).drew) | (with_reducible exact ((Below.refl _ _).alloc (Nat.le_refl _) _).drew) | (with_reducible exact (Below.refl _ _).alloc (Nat.le_refl _) _) | (with_reducible exact (Below.refl _ _).drew.alloc (Nat.le_refl _) _)), ?_⟩
      refine wpAnyH_all (rs := [5]) (by kernel_rfl) (by simp) ?_
      intro i hi
      obtain rfl : i = 5 := by simpa using hi
      clear hi
      simp [wpOp, Oper.wp, Oper.upon, go_sem]
      refine Or.inl ((CDo.out _ ?_).mono ?_)
      · first | (with_reducible exact (Below.refl _ _).drew) | (with_reducible exact ((Below.refl _ _).alloc (Nat.le_refl _) _).drew) | (with_reducible exact (Below.refl _ _).alloc (Nat.le_refl _) _) | (with_reducible exact (Below.refl _ _).drew.alloc (Nat.le_refl _) _)
      rintro y v0 ⟨rfl, hb0⟩
      have By0 : Hid (Below wc.heap.size wc v0) := hide (below_step (by first | (with_reducible exact (Below.refl _ _).drew) | (with_reducible exact ((Below.refl _ _).alloc (Nat.le_refl _) _).drew) | (with_reducible exact (Below.refl _ _).alloc (Nat.le_refl _) _) | (with_reducible exact (Below.refl _ _).drew.alloc (Nat.le_refl _) _)) hb0)
      clear hb0
      refine ⟨KB2.out _ By0.out, ?_⟩
      refine wpAnyH_take (i := 6) (v := .agg #[.int .i64 0, .string ⟨#[]⟩, .int .i64 0, .string ⟨#[]⟩, .string ⟨#[]⟩]) rfl (by kernel_rfl) (by kernel_rfl) (by kernel_rfl) (fun _ _ _ h => h) (Or.inl ⟨by rfl, fun wx hx => by simp [go_sem]⟩) (KB2.out _ (by first | (with_reducible exact (Below.refl _ _).drew) | (with_reducible exact ((Below.refl _ _).alloc (Nat.le_refl _) _).drew) | (with_reducible exact (Below.refl _ _).alloc (Nat.le_refl _) _) | (with_reducible exact (Below.refl _ _).drew.alloc (Nat.le_refl _) _) | (with_reducible exact By0.out) | (with_reducible exact By0.out.alloc By0.out.size _))) ?_
      refine wpAnyH_take (i := 7) (v := .iface 25 (.int .i64 (nn : Int))) rfl (by kernel_rfl) (by kernel_rfl) (by kernel_rfl) (fun _ _ _ h => h) (Or.inl ⟨by rfl, fun wx hx => by simp [go_sem]⟩) (KB2.out _ (by first | (with_reducible exact (Below.refl _ _).drew) | (with_reducible exact ((Below.refl _ _).alloc (Nat.le_refl _) _).drew) | (with_reducible exact (Below.refl _ _).alloc (Nat.le_refl _) _) | (with_reducible exact (Below.refl _ _).drew.alloc (Nat.le_refl _) _) | (with_reducible exact By0.out) | (with_reducible exact By0.out.alloc By0.out.size _))) ?_
      refine wpAnyH_all (rs := [8]) (by kernel_rfl) (by simp) ?_
      intro i hi
      obtain rfl : i = 8 := by simpa using hi
      clear hi
      simp [wpOp, Oper.wp, Oper.upon, go_sem]
      refine Or.inl ((C42.out _ ?_).mono ?_)
      · first | (with_reducible exact (Below.refl _ _).drew) | (with_reducible exact ((Below.refl _ _).alloc (Nat.le_refl _) _).drew) | (with_reducible exact (Below.refl _ _).alloc (Nat.le_refl _) _) | (with_reducible exact (Below.refl _ _).drew.alloc (Nat.le_refl _) _) | (with_reducible exact By0.out) | (with_reducible exact By0.out.alloc By0.out.size _)
      rintro y v1 ⟨rfl, hb1⟩
      have By1 : Hid (Below wc.heap.size wc v1) := hide (below_step (by first | (with_reducible exact (Below.refl _ _).drew) | (with_reducible exact ((Below.refl _ _).alloc (Nat.le_refl _) _).drew) | (with_reducible exact (Below.refl _ _).alloc (Nat.le_refl _) _) | (with_reducible exact (Below.refl _ _).drew.alloc (Nat.le_refl _) _) | (with_reducible exact By0.out) | (with_reducible exact By0.out.alloc By0.out.size _)) hb1)
      clear hb1
      dsimp only [thrown]
      exact ⟨rfl, FIN.out v1 By1.out⟩
theorem cmd_happen : CmdOk 15 (arOf (-1)) := by
  intro db s w x v xs z hD hc hV hP hsz har hz
  cases hacc : accB (textL (lineL x xs)) (splitEv (textL (lineL x xs))) with
  | false => exact happen_bad db s w x v xs z hD hV hP hsz hacc
  | true =>
    by_cases hno : refuseB s.h.τ (splitEv (textL (lineL x xs))) ≠ 0 ∨ 100 ≤ s.h.rs.length ∨ ((splitEv (textL (lineL x xs))).k = 3 ∧ (s.h.σ (splitEv (textL (lineL x xs))).s.data.toList).2 = false)
    · exact happen_why db s w x v xs z hD hV hP hsz hacc hno
    · exact happen_yes db s w x v xs z hD hV hP hsz hacc hno
end Go.Proofs.YtdjpghgnjcmdnaaGreatDoor

/- The lines that the law asks, and what they are answered. -/
namespace Go.Proofs.YtdjpghgnjcmdnaaGreatDoor
open Go.RowKit Go.Shelf Go.Sort Go.Maps
set_option linter.unusedSectionVars false
variable [Inhabited LowT]
def secD : ByteArray := markB 100 [⟨#[]⟩]
def annD : ByteArray := ⟨#[97, 110, 110]⟩
def bobD : ByteArray := ⟨#[98, 111, 98]⟩
def mailD : ByteArray := ⟨#[109, 97, 105, 108]⟩
def boxD : ByteArray := ⟨#[98, 111, 120]⟩
def bagD : ByteArray := ⟨#[98, 97, 103]⟩
def evA : Ev := ⟨1, annD, mailD, boxD, ⟨#[97, 32, 98]⟩⟩
def evB : Ev := ⟨1, bobD, mailD, bagD, ⟨#[99]⟩⟩
def evC : Ev := ⟨3, annD, ⟨#[]⟩, ⟨#[]⟩, ⟨#[]⟩⟩
def cellBag : Cl := ⟨mailD, bagD, bobD, ⟨#[99]⟩⟩
def wput : ByteArray := ⟨#[112, 117, 116]⟩
def wread : ByteArray := ⟨#[114, 101, 97, 100]⟩
def wgone : ByteArray := ⟨#[103, 111, 110, 101]⟩
def wrows : ByteArray := ⟨#[114, 111, 119, 115]⟩
def wlost : ByteArray := ⟨#[108, 111, 115, 116]⟩
def wcells : ByteArray := ⟨#[99, 101, 108, 108, 115]⟩
def wsubj : ByteArray := ⟨#[115, 117, 98, 106, 101, 99, 116, 115]⟩
def nx : ByteArray := ⟨#[120]⟩
def ny : ByteArray := ⟨#[121]⟩
def n9 : ByteArray := ⟨#[57]⟩
def linesA : List (List UInt8) := [[112, 117, 116, 32, 97, 110, 110, 32, 109, 97, 105, 108, 32, 98, 111, 120, 32, 97, 32, 98], [114, 101, 97, 100, 32, 120, 32, 57], [112, 117, 116, 32, 98, 111, 98, 32, 109, 97, 105, 108, 32, 98, 97, 103, 32, 99], [103, 111, 110, 101, 32, 97, 110, 110], [114, 101, 97, 100, 32, 120, 32, 57], [114, 101, 97, 100, 32, 121, 32, 57], [114, 111, 119, 115, 32, 120], [114, 111, 119, 115, 32, 121], [108, 111, 115, 116, 32, 120], [108, 111, 115, 116, 32, 121], [99, 101, 108, 108, 115], [115, 117, 98, 106, 101, 99, 116, 115], [120]]
theorem asked_lines : linesN askedL = linesA := by decide +kernel
theorem fw1 : wordsB (textL [112, 117, 116, 32, 97, 110, 110, 32, 109, 97, 105, 108, 32, 98, 111, 120, 32, 97, 32, 98]) = [wput, annD, mailD, boxD, ⟨#[97]⟩, ⟨#[98]⟩] := by decide +kernel
theorem fw2 : wordsB (textL [114, 101, 97, 100, 32, 120, 32, 57]) = [wread, nx, n9] := by decide +kernel
theorem fw3 : wordsB (textL [112, 117, 116, 32, 98, 111, 98, 32, 109, 97, 105, 108, 32, 98, 97, 103, 32, 99]) = [wput, bobD, mailD, bagD, ⟨#[99]⟩] := by decide +kernel
theorem fw4 : wordsB (textL [103, 111, 110, 101, 32, 97, 110, 110]) = [wgone, annD] := by decide +kernel
theorem fw6 : wordsB (textL [114, 101, 97, 100, 32, 121, 32, 57]) = [wread, ny, n9] := by decide +kernel
theorem fw7 : wordsB (textL [114, 111, 119, 115, 32, 120]) = [wrows, nx] := by decide +kernel
theorem fw8 : wordsB (textL [114, 111, 119, 115, 32, 121]) = [wrows, ny] := by decide +kernel
theorem fw9 : wordsB (textL [108, 111, 115, 116, 32, 120]) = [wlost, nx] := by decide +kernel
theorem fw10 : wordsB (textL [108, 111, 115, 116, 32, 121]) = [wlost, ny] := by decide +kernel
theorem fw11 : wordsB (textL [99, 101, 108, 108, 115]) = [wcells] := by decide +kernel
theorem fw12 : wordsB (textL [115, 117, 98, 106, 101, 99, 116, 115]) = [wsubj] := by decide +kernel
theorem fw13 : wordsB (textL [120]) = [nx] := by decide +kernel
theorem fo_put : orderB wput = some (-1, false, 15) := by decide +kernel
theorem fo_gone : orderB wgone = some (-1, false, 15) := by decide +kernel
theorem fo_read : orderB wread = some (2, true, 17) := by decide +kernel
theorem fo_rows : orderB wrows = some (1, false, 18) := by decide +kernel
theorem fo_lost : orderB wlost = some (1, false, 19) := by decide +kernel
theorem fo_cells : orderB wcells = some (0, false, 16) := by decide +kernel
theorem fo_subj : orderB wsubj = some (0, false, 24) := by decide +kernel
theorem fo_x : orderB nx = none := by decide +kernel
theorem num9 : numW n9.data.toList = some 9 := by decide +kernel
theorem ft1 : splitEv (textL (lineL wput [annD, mailD, boxD, ⟨#[97]⟩, ⟨#[98]⟩])) = evA := by
  apply Ev.of_data <;> decide +kernel
theorem ft3 : splitEv (textL (lineL wput [bobD, mailD, bagD, ⟨#[99]⟩])) = evB := by
  apply Ev.of_data <;> decide +kernel
theorem ft4 : splitEv (textL (lineL wgone [annD])) = evC := by
  apply Ev.of_data <;> decide +kernel
theorem fa1 : accB (textL (lineL wput [annD, mailD, boxD, ⟨#[97]⟩, ⟨#[98]⟩])) evA = true := by decide +kernel
theorem fa3 : accB (textL (lineL wput [bobD, mailD, bagD, ⟨#[99]⟩])) evB = true := by decide +kernel
theorem fa4 : accB (textL (lineL wgone [annD])) evC = true := by decide +kernel
end Go.Proofs.YtdjpghgnjcmdnaaGreatDoor

/- What the lines that the law asks are answered. -/
namespace Go.Proofs.YtdjpghgnjcmdnaaGreatDoor
open Go.RowKit Go.Shelf Go.Sort Go.Maps
set_option linter.unusedSectionVars false
variable [Inhabited LowT]
variable [Inhabited Cl] [Inhabited Ev]
theorem ans_of {s t : DeskS} {l o : List UInt8} {x : ByteArray} {xs : List ByteArray} (hw : wordsB (textL l) = x :: xs) (h : ObeyR s x xs (.inr (o, t))) (hl : o.length ≤ 1000000000) : AnsOf ObD s l (textL o) t := by
  unfold AnsOf
  rw [hw]
  exact ⟨_, h, .inr ⟨o, t, rfl, rfl, rfl, hl⟩⟩
theorem ans_no {s : DeskS} {l : List UInt8} {x : ByteArray} {xs : List ByteArray} {n : Nat} (hw : wordsB (textL l) = x :: xs) (h : ObeyR s x xs (.inl n)) (hn : n ≤ 100) : AnsOf ObD s l (wrongB (n : Int)) s := by
  unfold AnsOf
  rw [hw]
  exact ⟨_, h, .inl ⟨n, rfl, hn, rfl, rfl⟩⟩
theorem obey_plain {s : DeskS} {x : ByteArray} {xs : List ByteArray} {n : Int} {f : Nat} {res : Res} (ho : orderB x = some (n, false, f)) (hf : n = -1 ∨ n = (xs.length : Int)) (hC : Cmd f s x xs 0 res) : ObeyR s x xs res := by
  unfold ObeyR
  rw [ho]
  simp only
  rw [if_neg (fun h => by rcases hf with e | e; exact h.1 e; exact h.2 e)]
  exact hC
theorem obey_nine {s : DeskS} {nm : ByteArray} : ObeyR s wread [nm, n9] (readR s wread [nm, n9] 9) := by
  unfold ObeyR
  rw [fo_read]
  simp only
  rw [if_neg (fun h => h.2 rfl)]
  have e : at_ [nm, n9] ([nm, n9].length - 1) = n9 := rfl
  rw [e, num9]
  exact .inr (.inr (.inr (.inl ⟨rfl, rfl⟩)))
/-- How an event that happens is told. -/
theorem fix_happen {s : DeskS} {x : ByteArray} {xs : List ByteArray} {e : Ev} {g z : Nat} (h1 : splitEv (textL (lineL x xs)) = e) (h3 : accB (textL (lineL x xs)) e = true) (hd : doesB s.h.σ s.h.τ e = true) (hl : s.h.rs.length < 100) (hS : Sound s.h.σ) (hg : g = if e.k = 3 then 0 else (tellK s.h.σ e e.s.data.toList).1) (hz : z = (textB e).size + if e.k = 3 then 0 else 16) :
    happR s x xs = toldR x [itoaN (s.h.rs.length + 1), itoaN g, itoaN z] ⟨s.sec, ⟨tellK s.h.σ e, app e s.h.τ, s.h.rs ++ [tellR s.sec s.h.σ s.h.rs e], s.h.ok ++ [e]⟩, s.rd, s.kept, s.c⟩ := by
  have hr := (does_parts hd).1
  have h0 := (does_parts hd).2
  obtain ⟨hR, hq, _⟩ := tell_new (sec := s.sec) (rs := s.h.rs) hr hS
  have hk : e.k = 3 → (s.h.σ e.s.data.toList).2 = true := fun hk => by
    unfold doesB at hd
    simp [hk] at hd
    exact hd.2.2
  have hno : ¬ (refuseB s.h.τ e ≠ 0 ∨ 100 ≤ s.h.rs.length ∨ (e.k = 3 ∧ (s.h.σ e.s.data.toList).2 = false)) := by
    rintro (a | a | ⟨a, b⟩)
    · exact a h0
    · omega
    · rw [hk a] at b
      cases b
  have hy := hstep_yes (sec := s.sec) hd
  have ht := happ_told (s := s) (x := x) (xs := xs) (t := textL (lineL x xs)) (e := e) (R := tellR s.sec s.h.σ s.h.rs e) rfl h1 (by rw [h1]; exact h3) hno rfl
  rw [hy, hq] at ht
  have eg : (tellR s.sec s.h.σ s.h.rs e).g = g := by
    rw [hg]
    by_cases h3' : e.k = 3
    · rw [if_pos h3', hR.gen.2 h3']
    · rw [if_neg h3']
      have := hR.there h3' rfl
      rw [hR.sub] at this
      rw [this]
  have ez : (tellR s.sec s.h.σ s.h.rs e).d.size = z := by
    rw [hz]
    by_cases h3' : e.k = 3
    · rw [if_pos h3', hR.opn h3']
      rfl
    · rw [if_neg h3', hR.sl h3', sealB_size, Nat.add_comm]
  rw [eg, ez] at ht
  exact ht
def τA : Tab := app evA tab0
def τB : Tab := app evB τA
def τC : Tab := app evC τB
def σA : Kept := tellK kept0 evA
def σB : Kept := tellK σA evB
def σC : Kept := tellK σB evC
theorem put_app {e : Ev} (hr : rightB e = true) (hk : e.k = 1) (τ : Tab) (t r : ByteArray) : app e τ t r = if t = e.t ∧ r = e.r then some (e.s, e.v) else τ t r := by
  rw [app_right hr, act_put hk]
  by_cases h : hereB t r e = true
  · rw [if_pos h, if_pos (hereB_iff.1 h)]
  · rw [if_neg h, if_neg (fun a => h (hereB_iff.2 a))]
theorem gone_app {e : Ev} (hr : rightB e = true) (hk : e.k = 3) (τ : Tab) (t r : ByteArray) : app e τ t r = if ownB (τ t r) e.s = true then none else τ t r := by
  rw [app_right hr, act_gone (by omega) (by omega)]
theorem rA : rightB evA = true := by decide +kernel
theorem rB : rightB evB = true := by decide +kernel
theorem rC : rightB evC = true := by decide +kernel
theorem ne_ab : ¬ bobD = annD := by decide
theorem rows_C (t r : ByteArray) : τC t r = if t = mailD ∧ r = bagD then some (bobD, ⟨#[99]⟩) else none := by
  unfold τC τB τA
  rw [gone_app rC rfl, put_app rB rfl, put_app rA rfl]
  by_cases h : t = mailD ∧ r = bagD
  · have h' : t = evB.t ∧ r = evB.r := h
    rw [if_pos h', if_pos h, if_neg]
    · rfl
    · show ¬ ownB (some (bobD, _)) annD = true
      rw [ownB_some]
      simp [ne_ab]
  · have h' : ¬ (t = evB.t ∧ r = evB.r) := h
    rw [if_neg h', if_neg h]
    by_cases k : t = evA.t ∧ r = evA.r
    · rw [if_pos k, if_pos]
      show ownB (some (annD, _)) annD = true
      rw [ownB_some]
      simp
    · rw [if_neg k, if_neg]
      · rfl
      · show ¬ ownB none annD = true
        rw [ownB_none]
        simp
theorem rows_Y (t r : ByteArray) : app evC (app evB tab0) t r = if t = mailD ∧ r = bagD then some (bobD, ⟨#[99]⟩) else none := by
  rw [gone_app rC rfl, put_app rB rfl]
  by_cases h : t = mailD ∧ r = bagD
  · have h' : t = evB.t ∧ r = evB.r := h
    rw [if_pos h', if_pos h, if_neg]
    · rfl
    · show ¬ ownB (some (bobD, _)) annD = true
      rw [ownB_some]
      simp [ne_ab]
  · have h' : ¬ (t = evB.t ∧ r = evB.r) := h
    rw [if_neg h', if_neg h, if_neg]
    · rfl
    · show ¬ ownB none annD = true
      rw [ownB_none]
      simp
theorem one_row {τ : Tab} (h : ∀ t r, τ t r = if t = mailD ∧ r = bagD then some (bobD, ⟨#[99]⟩) else none) : InOrd τ [cellBag] := by
  refine ⟨List.pairwise_singleton _ _, fun c => ?_⟩
  rw [h, List.mem_singleton]
  constructor
  · rintro rfl
    rfl
  · intro hc
    by_cases k : c.t = mailD ∧ c.r = bagD
    · rw [if_pos k] at hc
      obtain ⟨t, r, s, v⟩ := c
      simp only [Option.some.injEq, Prod.mk.injEq] at hc k
      obtain ⟨rfl, rfl⟩ := k
      obtain ⟨rfl, rfl⟩ := hc
      rfl
    · rw [if_neg k] at hc
      cases hc
theorem held_C (l : List UInt8) : (σC l).2 = true ↔ l = bobD.data.toList := by
  unfold σC σB σA tellK
  rw [if_pos (show evC.k = 3 from rfl), if_neg (show ¬ evB.k = 3 by decide), if_neg (show ¬ evA.k = 3 by decide)]
  unfold gone made kept0
  by_cases ha : l = annD.data.toList
  · subst ha
    simp [evC, evB, evA]
    decide
  · by_cases hb : l = bobD.data.toList
    · subst hb
      simp [evC, evB, evA]
      decide
    · simp [evC, evB, evA, ha, hb]
theorem order_C : InOrder σC [bobD.data.toList] := ⟨[bobD.data.toList], by simp, fun x => by rw [held_C]; simp, by simp⟩
end Go.Proofs.YtdjpghgnjcmdnaaGreatDoor

/- The orders 'rows' and 'lost'. -/
namespace Go.Proofs.YtdjpghgnjcmdnaaGreatDoor
open Go.RowKit Go.Shelf Go.Sort Go.Maps
set_option linter.unusedSectionVars false
variable [Inhabited LowT]
variable [Inhabited Cl] [Inhabited Ev]
attribute [local go_sem ↓] Go.wp_at_zero Go.wp_at_succ
set_option maxRecDepth 100000 in
set_option maxHeartbeats 4000000 in
theorem cmd_rows : CmdOk 18 (arOf 1) := by
  intro db s w x v xs z hD hc hV hP hsz har hz
  obtain ⟨κ, B, ob, sb, fb, vb, mt, mv, vf, rm, ρ, c3, c4, c5, c6, h⟩ := hD
  obtain ⟨hP1, p, cp, rfl, hcp⟩ := hP
  have hx := (size_words hsz).1
  have hlen : xs.length = 1 := har 1 rfl
  obtain ⟨g, off, rfl, hg, hw0⟩ := firstW hP1 (by omega)
  have hxz : (at_ xs 0).size ≤ 30000 := at_size (size_words hsz).2
  obtain ⟨x0, hx0⟩ : ∃ x0, at_ xs 0 = x0 := ⟨_, rfl⟩
  rw [hx0] at hw0 hxz
  have HX0 := hide hx0
  clear hx0
  rw [hlen]
  have X0 := hide (HasR.new w 65 #[.string x, .slice (some ⟨g, off, none⟩) 1 cp, .int .i64 z])
  have B0 := hide ((Below.refl w.heap.size w).alloc (Nat.le_refl _) (.cells #[.string x, .slice (some ⟨g, off, none⟩) 1 cp, .int .i64 z] 65))
  obtain ⟨W, hW⟩ : ∃ W, w.alloc (.cells #[.string x, .slice (some ⟨g, off, none⟩) 1 cp, .int .i64 z] 65) = W := ⟨_, rfl⟩
  rw [hW] at X0 B0
  have HW := hide hW
  have HD := hide (h.still B0.out)
  have h11 := hV.n
  have _hk11 := lowK_le
  have HV := hide (hV.low (B0.out.mono h11) B0.out.size)
  have hlS : s.h.ok.length ≤ 100 := h.good.len
  have nX : Hid (w.heap.size ∉ [rm]) := hide (h.rm_old (Nat.le_refl _))
  have nG : Hid (g ∉ [rm]) := hide (h.rm_cell hw0)
  have nD : Hid (db ∉ [rm]) := hide (h.rm_ne (by rw [h.kD]; simp))
  have gW : W.cell? ⟨g, off, none⟩ = some (.string x0) := (World.cell?_of_block (B0.out.block g hg)).trans hw0
  have lW : g < W.heap.size := Nat.lt_of_lt_of_le hg B0.out.size
  have KB : Hid (∀ wx, Stirred [rm] W wx → wx.cell? ⟨w.heap.size, 0, none⟩ = some (.string x) ∧ wx.cell? ⟨w.heap.size, 1, none⟩ = some (.slice (some ⟨g, off, none⟩) 1 cp) ∧ wx.cell? ⟨w.heap.size, 2, none⟩ = some (.int .i64 z) ∧ wx.cell? ⟨g, off, none⟩ = some (.string x0)) := hide fun wx t =>
    have X := X0.out.turned t nX.out
    ⟨X.cell 0, X.cell 1, X.cell 2, (t.cell (p := ⟨g, off, none⟩) lW nG.out).trans gW⟩
  obtain ⟨k0, k1, k2, k3⟩ := KB.out W (Stirred.refl _ _)
  have KD : Hid (∀ wx, Stirred [rm] W wx → wx.cell? ⟨db, 0, none⟩ = some (.map (some ob)) ∧ wx.cell? ⟨db, 1, none⟩ = some (.pointer (some ⟨sb, 0, none⟩)) ∧ wx.cell? ⟨db, 2, none⟩ = some (.map (some rm))) := hide fun wx t =>
    have X := HD.out.desk.turned t nD.out
    ⟨X.cell 0, X.cell 1, X.cell 2⟩
  obtain ⟨j0, j1, j2⟩ := KD.out W (Stirred.refl _ _)
  have HH := hide h
  have VB : Hid (∀ wx, Stirred [rm] W wx → Vars wx) := hide fun wx t => HV.out.low (t.below HV.out.n (fun j hj => by
    have e : j = rm := by simpa using hj
    rw [e]
    exact HD.out.low DeskV.rmOwned)) t.size
  clear h hW hP1 hsz har hw0
  have C46 := hide (named_any (HD.out.still (Below.refl _ W).drew) x0 (by omega) hc (show lowK ≤ W.drew.heap.size from HV.out.n))
  go_enter Tryz.func18, Tryz.ntmps18
  go_upto_region 1 with fail
  rw [HW.out]
  go_region_held3 (fun wx => wx.cell? ⟨w.heap.size, 0, none⟩ = some (.string x) ∧ wx.cell? ⟨w.heap.size, 1, none⟩ = some (.slice (some ⟨g, off, none⟩) 1 cp) ∧ wx.cell? ⟨w.heap.size, 2, none⟩ = some (.int .i64 z) ∧ wx.cell? ⟨g, off, none⟩ = some (.string x0)) (first | (with_reducible exact K2.out) | (with_reducible exact K3.out) | (with_reducible exact K4.out) | (with_reducible exact K5.out) | (with_reducible exact K6.out) | go_keep)
    (first
    | (go_at_call 46; (with_reducible refine C46.out.mono ?_); rintro y w2 ⟨rb, m, κ2, ρ2, rfl, hd2, hρ2, t2⟩; obtain ⟨n2, hn2, hT2⟩ := hd2.tab hρ2; have D2 := hide hd2; have T2 := hide (((Stirred.of_below (Below.refl _ W).drew [rm])).andThen t2 (fun j hj => .inl hj)); have TT2 := hide hT2; have G2 := hide (hd2.good.rd _ _ (show (setR s x0 (getR s x0)).rd x0 = some (getR s x0) by unfold setR; simp)); have K2 := hide (KB.out w2 T2.out); have V2 := hide (VB.out w2 T2.out); have hq2 : (getR s x0).q ≤ 100 := Nat.le_trans G2.out.q hlS; have C51 := hide (rdCells_typ w2 rb vb _ _ _ m n2 _ hT2 (by omega)); clear hd2 t2 hT2)
    | (go_at_call 51; (with_reducible refine C51.out.mono ?_); rintro y w3 ⟨u, ds, rfl, ho, hl, hr, _, hb3⟩; obtain ⟨p2, cp2, rfl⟩ := hr.len; have B3 := hide hb3; have T3 := hide (T2.out.then_below hb3); have K3 := hide (KB.out w3 T3.out); have V3 := hide (VB.out w3 T3.out); have HRR := hide (G2.out.right ho); have HO := hide ho; have hl2 : ds.length ≤ 100 := (by omega); have C44 := hide (written_any w3 p2 cp2 _ ds hr HRR.out hl2 V3.out.m); clear hr hb3 ho hl)
    | (go_at_call 44; (with_reducible refine C44.out.mono ?_); rintro y w4 ⟨u3, rfl, hp4, hb4⟩; have B4 := hide (B3.out.trans (hb4.mono B3.out.size)); have T4 := hide (T3.out.then_below hb4); have K4 := hide (KB.out w4 T4.out); have C12 := hide (tell_any x u3 (ds.map wordC) w4 hp4 (by simp; omega) (told_fits (words_size HRR.out) hx (by simp; omega))); clear hb4 hp4)
    | (go_at_call 12; (with_reducible refine C12.out.mono ?_); rintro y w5 ⟨rfl, hb5⟩; have B5 := hide (B4.out.trans (hb5.mono B4.out.size)); have T5 := hide (T4.out.then_below hb5); have K5 := hide (KB.out w5 T5.out); clear hb5))
  go_wp2
  go_ret
  have q : Quiet w w5 := (Quiet.of_below B0.out h11).trans (HD.out.quietM T5.out HV.out.n)
  refine ⟨toldR x (ds.map rowL) (setR s (at_ xs 0) (getR s (at_ xs 0))), ?_, .inr ⟨_, _, rfl, ?_, ?_, ?_⟩, q⟩
  · rw [HX0.out]
    exact .inr (.inr (.inr (.inr (.inl ⟨rfl, ds, by rw [HX0.out]; exact HO.out, by rw [HX0.out]⟩))))
  · rw [words_told]
    rfl
  · rw [words_told]
    have := told_fits (words_size HRR.out) hx (by simp; omega) (x := x)
    omega
  · rw [HX0.out]
    exact D2.out.same B5.out
end Go.Proofs.YtdjpghgnjcmdnaaGreatDoor
