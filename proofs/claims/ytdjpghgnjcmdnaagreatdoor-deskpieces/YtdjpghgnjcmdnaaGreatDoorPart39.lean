/- Texts of this proof, one behind the other. -/
import Derived.Deep.RegionHeld3
import Derived.Deep.DeepCutAuto
import Derived.Test.YtdjpghgnjcmdnaaGreatDoorPart38
/- The order 'save'. -/
namespace Go.Proofs.YtdjpghgnjcmdnaaGreatDoor
open Go.RowKit Go.Shelf Go.Sort Go.Maps
set_option linter.unusedSectionVars false
variable [Inhabited LowT]
variable [Inhabited Cl] [Inhabited Ev]
attribute [local go_sem ↓] Go.wp_at_zero Go.wp_at_succ
set_option maxRecDepth 100000 in
set_option maxHeartbeats 4000000 in
theorem cmd_save : CmdOk 20 (arOf 1) := by
  intro db s w x v xs z hD hc hV hP hsz har hz
  obtain ⟨κ, B, ob, sb, fb, vb, mt, mv, vf, rm, ρ, c3, c4, c5, c6, h⟩ := hD
  obtain ⟨hP1, p, cp, rfl, hcp⟩ := hP
  have hx := (size_words hsz).1
  have hlen : xs.length = 1 := har 1 rfl
  obtain ⟨g, off, rfl, hg, hw0⟩ := firstW hP1 (by omega)
  have hxz : (at_ xs 0).size ≤ 30000 := at_size (size_words hsz).2
  obtain ⟨x0, hx0⟩ : ∃ x0, at_ xs 0 = x0 := ⟨_, rfl⟩
  rw [hx0] at hw0 hxz
  have HX0 := hide hx0
  clear hx0
  rw [hlen]
  have X0 := hide (HasR.new w 65 #[.string x, .slice (some ⟨g, off, none⟩) 1 cp, .int .i64 z])
  have B0 := hide ((Below.refl w.heap.size w).alloc (Nat.le_refl _) (.cells #[.string x, .slice (some ⟨g, off, none⟩) 1 cp, .int .i64 z] 65))
  obtain ⟨W, hW⟩ : ∃ W, w.alloc (.cells #[.string x, .slice (some ⟨g, off, none⟩) 1 cp, .int .i64 z] 65) = W := ⟨_, rfl⟩
  rw [hW] at X0 B0
  have HW := hide hW
  have HD := hide (h.still B0.out)
  have h11 := hV.n
  have _hk11 := lowK_le
  have HV := hide (hV.low (B0.out.mono h11) B0.out.size)
  have hlS : s.h.ok.length ≤ 100 := h.good.len
  have nX : Hid (w.heap.size ∉ [rm]) := hide (h.rm_old (Nat.le_refl _))
  have nG : Hid (g ∉ [rm]) := hide (h.rm_cell hw0)
  have nD : Hid (db ∉ [rm]) := hide (h.rm_ne (by rw [h.kD]; simp))
  have gW : W.cell? ⟨g, off, none⟩ = some (.string x0) := (World.cell?_of_block (B0.out.block g hg)).trans hw0
  have lW : g < W.heap.size := Nat.lt_of_lt_of_le hg B0.out.size
  have KB : Hid (∀ wx, Stirred [rm] W wx → wx.cell? ⟨w.heap.size, 0, none⟩ = some (.string x) ∧ wx.cell? ⟨w.heap.size, 1, none⟩ = some (.slice (some ⟨g, off, none⟩) 1 cp) ∧ wx.cell? ⟨w.heap.size, 2, none⟩ = some (.int .i64 z) ∧ wx.cell? ⟨g, off, none⟩ = some (.string x0)) := hide fun wx t =>
    have X := X0.out.turned t nX.out
    ⟨X.cell 0, X.cell 1, X.cell 2, (t.cell (p := ⟨g, off, none⟩) lW nG.out).trans gW⟩
  obtain ⟨k0, k1, k2, k3⟩ := KB.out W (Stirred.refl _ _)
  have KD : Hid (∀ wx, Stirred [rm] W wx → wx.cell? ⟨db, 0, none⟩ = some (.map (some ob)) ∧ wx.cell? ⟨db, 1, none⟩ = some (.pointer (some ⟨sb, 0, none⟩)) ∧ wx.cell? ⟨db, 2, none⟩ = some (.map (some rm))) := hide fun wx t =>
    have X := HD.out.desk.turned t nD.out
    ⟨X.cell 0, X.cell 1, X.cell 2⟩
  obtain ⟨j0, j1, j2⟩ := KD.out W (Stirred.refl _ _)
  have HH := hide h
  have VB : Hid (∀ wx, Stirred [rm] W wx → Vars wx) := hide fun wx t => HV.out.low (t.below HV.out.n (fun j hj => by
    have e : j = rm := by simpa using hj
    rw [e]
    exact HD.out.low DeskV.rmOwned)) t.size
  clear h hW hP1 hsz har hw0
  have C46 := hide (named_any HD.out x0 (by omega) hc HV.out.n)
  go_enter Tryz.func20, Tryz.ntmps20
  go_upto_region 1 with fail
  rw [HW.out]
  go_upto_region 2 with (first
    | (go_at_call 46; (with_reducible refine C46.out.mono ?_); rintro y w2 ⟨rb, m, κ2, ρ2, rfl, hd2, hρ2, t2⟩; obtain ⟨n2, hn2, hT2⟩ := hd2.tab hρ2; have D2 := hide hd2; have T2 := hide t2; have HN2 := hide hn2; have G2 := hide (hd2.good.rd _ _ (show (setR s x0 (getR s x0)).rd x0 = some (getR s x0) by unfold setR; simp)); have V2 := hide (VB.out w2 T2.out); have hq2 : (getR s x0).q ≤ 100 := Nat.le_trans G2.out.q hlS; have C53 := hide (save_typ w2 rb vb _ _ _ m n2 _ hT2 (by omega)); clear hd2 t2 hT2 hn2)
    | (go_at_call 53; (with_reducible refine C53.out.mono ?_); rintro y w3 ⟨u, ds, rfl, ho, hl, hr, hty, hb3⟩; obtain ⟨p2, cp2, rfl⟩ := hr.len; have B3 := hide hb3; have T3 := hide (T2.out.then_below hb3); have D3 := hide (D2.out.still hb3); have HO := hide ho; have HL := hide hl; have HRW := hide hr; have HTY := hide hty; have d3 : w3.cell? ⟨db, 3, none⟩ = some c3 := D3.out.desk.cell 3; have d4 : w3.cell? ⟨db, 4, none⟩ = some c4 := D3.out.desk.cell 4; have d5 : w3.cell? ⟨db, 5, none⟩ = some c5 := D3.out.desk.cell 5; have d6 : w3.cell? ⟨db, 6, none⟩ = some c6 := D3.out.desk.cell 6; have f3 : w3.frozen? ⟨db, 3, none⟩ = false := D3.out.desk.free 3; have f4 : w3.frozen? ⟨db, 4, none⟩ = false := D3.out.desk.free 4; have f5 : w3.frozen? ⟨db, 5, none⟩ = false := D3.out.desk.free 5; have f6 : w3.frozen? ⟨db, 6, none⟩ = false := D3.out.desk.free 6; clear hr hb3 ho hl hty))
  obtain ⟨w4, hw4⟩ : ∃ w4, (((w3.setCell ⟨db, 3, none⟩ (.int .i64 ((getR s x0).q : Int))).setCell ⟨db, 4, none⟩ (.string (markAt (getR s x0).q (getR s x0).m))).setCell ⟨db, 5, none⟩ (.slice p2 ds.length cp2)).setCell ⟨db, 6, none⟩ (.int .i64 ((getR s x0).lost : Int)) = w4 := ⟨_, rfl⟩
  rw [hw4]
  have hD4 : HasR w4 db 34 #[.map (some ob), .pointer (some ⟨sb, 0, none⟩), .map (some rm), .int .i64 ((getR s x0).q : Int), .string (markAt (getR s x0).q (getR s x0).m), .slice p2 ds.length cp2, .int .i64 ((getR s x0).lost : Int)] := by
    rw [← hw4]
    have := (((D3.out.desk.set 3 (.int .i64 ((getR s x0).q : Int))).set 4 (.string (markAt (getR s x0).q (getR s x0).m))).set 5 (.slice p2 ds.length cp2)).set 6 (.int .i64 ((getR s x0).lost : Int))
    simpa using this
  have t4 : Stirred [db] w3 w4 := by
    rw [← hw4]
    have st : ∀ (X : World) (k : Nat) (u : Value), Stirred [db] X (X.setCell ⟨db, k, none⟩ u) := fun X k u => Stirred.setCell X ⟨db, k, none⟩ u
    exact (((st _ _ _).andThen (st _ _ _) (fun j hj => .inl hj)).andThen (st _ _ _) (fun j hj => .inl hj)).andThen (st _ _ _) (fun j hj => .inl hj)
  have hown : ∀ g2, (Value.slice p2 ds.length cp2).ownBlock = some g2 → w2.heap.size ≤ g2 ∧ g2 < w3.heap.size := fun g2 hg2 => HRW.out.own hg2
  have hne : ∀ g2, (Value.slice p2 ds.length cp2).ownBlock = some g2 → g2 ∉ [db] := fun g2 hg2 hm => by
    have e : g2 = db := by simpa using hm
    have h1 := D2.out.desk.lt
    have h2 := (hown g2 hg2).1
    omega
  have hK4 : KeptV w4 (some (keptOf (getR s x0))) (.int .i64 ((getR s x0).q : Int)) (.string (markAt (getR s x0).q (getR s x0).m)) (.slice p2 ds.length cp2) (.int .i64 ((getR s x0).lost : Int)) := by
    refine ⟨rfl, rfl, rfl, ds, HO.out, Nat.le_trans HL.out HN2.out, (HRW.out.mono V2.out.n).aside t4 hne, fun g2 hg2 => ?_⟩
    obtain ⟨cs, hcs⟩ := HTY.out g2 hg2
    exact ⟨Nat.le_trans V2.out.n (hown g2 hg2).1, cs, hcs.turned t4 (hne g2 hg2)⟩
  have hfresh : ∀ g2, (Value.slice p2 ds.length cp2).ownBlock = some g2 → ¬ Owned db ob sb fb vb mt mv vf rm ρ2 c5 g2 := fun g2 hg2 hO => by
    have h1 := D2.out.old hO
    have h2 := (hown g2 hg2).1
    omega
  have hDD : Desk db ⟨s.sec, s.h, (setR s x0 (getR s x0)).rd, some (keptOf (getR s x0)), s.c + 1⟩ w4 := by
    obtain ⟨κ4, h4⟩ := D3.out.keeps hD4 hK4 hfresh t4 (D3.out.good.keep G2.out)
    exact ⟨κ4, B, ob, sb, fb, vb, mt, mv, vf, rm, ρ2, _, _, _, _, h4⟩
  have qq : Quiet w w4 := ((Quiet.of_below B0.out h11).trans (HD.out.quietM T3.out HV.out.n)).trans (D3.out.quiet t4 (fun j hj => .inl (.inl (by simpa using hj))) (Nat.le_trans V2.out.n B3.out.size))
  have HDD := hide hDD
  have QQ := hide qq
  have V4 := hide (V2.out.low ((B3.out.mono V2.out.n).trans (t4.below (Nat.le_trans V2.out.n B3.out.size) (fun j hj => by
    have e : j = db := by simpa using hj
    rw [e]
    exact HD.out.lowD))) (Nat.le_trans B3.out.size t4.size))
  have X4 := hide ((X0.out.turned T3.out nX.out).turned t4 (fun hm => by
    have e : w.heap.size = db := by simpa using hm
    have := HH.out.desk.lt
    omega))
  have K4 : Hid (∀ wx, Below w4.heap.size w4 wx → wx.cell? ⟨w.heap.size, 0, none⟩ = some (.string x) ∧ wx.cell? ⟨db, 3, none⟩ = some (.int .i64 ((getR s x0).q : Int))) := hide fun wx hb => ⟨(X4.out.below hb X4.out.lt).cell 0, (hD4.below hb hD4.lt).cell 3⟩
  obtain ⟨a0, a3⟩ := K4.out w4 (Below.refl _ _)
  have C13 := hide (itoaN_any (getR s x0).q (by omega) w4.drew (V4.out.p.below (Below.refl _ w4).drew V4.out.p.lt))
  clear hD4 t4 hown hne hK4 hfresh hDD qq hw4 d3 d4 d5 d6 f3 f4 f5 f6
  go_region_held3 (fun wx => wx.cell? ⟨w.heap.size, 0, none⟩ = some (.string x) ∧ wx.cell? ⟨db, 3, none⟩ = some (.int .i64 ((getR s x0).q : Int))) (first | (with_reducible exact K5.out) | (with_reducible exact K6.out) | (with_reducible exact K9.out) | go_keep)
    (first
    | (go_at_call 13; (with_reducible refine C13.out.mono ?_); rintro y w5 ⟨rfl, hb5⟩; have B5 := hide (below_of_drew hb5); have K5 := hide (K4.out w5 B5.out); have K9 := hide (K4.out (w5.alloc (.cells #[.string (textL (itoaN (getR s x0).q))] 9)) (B5.out.alloc B5.out.size _)); have C12 := hide (tell_one x (itoaN (getR s x0).q) w5 hx (Nat.le_trans (itoaN_le _ (by omega)) (by omega))); clear hb5)
    | (go_at_call 12; (with_reducible refine C12.out.mono ?_); rintro y w6 ⟨rfl, hb6⟩; have B6 := hide (B5.out.trans (hb6.mono B5.out.size)); have K6 := hide (K4.out w6 B6.out); clear hb6))
  go_wp2
  go_ret
  refine ⟨saveR s x xs, .inr (.inr (.inr (.inr (.inr (.inr (.inl ⟨rfl, rfl⟩)))))), .inr ⟨toldL x [textL (itoaN (getR s x0).q)], ⟨s.sec, s.h, (setR s x0 (getR s x0)).rd, some (keptOf (getR s x0)), s.c + 1⟩, ?_, rfl, ?_, HDD.out.still B6.out⟩, QQ.out.trans (Quiet.of_below B6.out V4.out.n)⟩
  · unfold saveR
    rw [HX0.out]
    rfl
  · exact told_one hx (Nat.le_trans (itoaN_le _ (by omega)) (by omega))
end Go.Proofs.YtdjpghgnjcmdnaaGreatDoor

/- The order 'load'. -/
namespace Go.Proofs.YtdjpghgnjcmdnaaGreatDoor
open Go.RowKit Go.Shelf Go.Sort Go.Maps
set_option linter.unusedSectionVars false
variable [Inhabited LowT]
variable [Inhabited Cl] [Inhabited Ev]
attribute [local go_sem ↓] Go.wp_at_zero Go.wp_at_succ
set_option maxRecDepth 100000 in
set_option maxHeartbeats 4000000 in
theorem load_none (db : Nat) (s : DeskS) (w : World) (x : ByteArray) (v : Value) (xs : List ByteArray) (z : Int) (hD : Desk db s w) (_hc : s.c ≤ 30000) (hV : Vars w) (hP : LineW w v xs) (hsz : ((x :: xs).map fun y => y.size + 1).sum ≤ 30001) (har : ∀ n, arOf 1 = some n → xs.length = n) (hk : s.kept = none) :
    Calls Tryz.prog 21 #[.pointer (some ⟨db, 0, none⟩), .agg #[.string x, v, .int .i64 z]] w fun e w' => OutD db s 21 x xs z w e w' := by
  obtain ⟨κ, B, ob, sb, fb, vb, mt, mv, vf, rm, ρ, c3, c4, c5, c6, h⟩ := hD
  obtain ⟨hP1, p, cp, rfl, hcp⟩ := hP
  have hx := (size_words hsz).1
  have hlen : xs.length = 1 := har 1 rfl
  obtain ⟨g, off, rfl, hg, hw0⟩ := firstW hP1 (by omega)
  have hxz : (at_ xs 0).size ≤ 30000 := at_size (size_words hsz).2
  obtain ⟨x0, hx0⟩ : ∃ x0, at_ xs 0 = x0 := ⟨_, rfl⟩
  rw [hx0] at hw0 hxz
  have HX0 := hide hx0
  clear hx0
  rw [hlen]
  have X0 := hide (HasR.new w 65 #[.string x, .slice (some ⟨g, off, none⟩) 1 cp, .int .i64 z])
  have B0 := hide ((Below.refl w.heap.size w).alloc (Nat.le_refl _) (.cells #[.string x, .slice (some ⟨g, off, none⟩) 1 cp, .int .i64 z] 65))
  obtain ⟨W, hW⟩ : ∃ W, w.alloc (.cells #[.string x, .slice (some ⟨g, off, none⟩) 1 cp, .int .i64 z] 65) = W := ⟨_, rfl⟩
  rw [hW] at X0 B0
  have HW := hide hW
  have HD := hide (h.still B0.out)
  have h11 := hV.n
  have _hk11 := lowK_le
  have HV := hide (hV.low (B0.out.mono h11) B0.out.size)
  have hlS : s.h.ok.length ≤ 100 := h.good.len
  have nX : Hid (w.heap.size ∉ [rm]) := hide (h.rm_old (Nat.le_refl _))
  have nG : Hid (g ∉ [rm]) := hide (h.rm_cell hw0)
  have nD : Hid (db ∉ [rm]) := hide (h.rm_ne (by rw [h.kD]; simp))
  have gW : W.cell? ⟨g, off, none⟩ = some (.string x0) := (World.cell?_of_block (B0.out.block g hg)).trans hw0
  have lW : g < W.heap.size := Nat.lt_of_lt_of_le hg B0.out.size
  have KB : Hid (∀ wx, Stirred [rm] W wx → wx.cell? ⟨w.heap.size, 0, none⟩ = some (.string x) ∧ wx.cell? ⟨w.heap.size, 1, none⟩ = some (.slice (some ⟨g, off, none⟩) 1 cp) ∧ wx.cell? ⟨w.heap.size, 2, none⟩ = some (.int .i64 z) ∧ wx.cell? ⟨g, off, none⟩ = some (.string x0)) := hide fun wx t =>
    have X := X0.out.turned t nX.out
    ⟨X.cell 0, X.cell 1, X.cell 2, (t.cell (p := ⟨g, off, none⟩) lW nG.out).trans gW⟩
  obtain ⟨k0, k1, k2, k3⟩ := KB.out W (Stirred.refl _ _)
  have KD : Hid (∀ wx, Stirred [rm] W wx → wx.cell? ⟨db, 0, none⟩ = some (.map (some ob)) ∧ wx.cell? ⟨db, 1, none⟩ = some (.pointer (some ⟨sb, 0, none⟩)) ∧ wx.cell? ⟨db, 2, none⟩ = some (.map (some rm)) ∧ wx.cell? ⟨db, 3, none⟩ = some c3 ∧ wx.cell? ⟨db, 4, none⟩ = some c4 ∧ wx.cell? ⟨db, 5, none⟩ = some c5 ∧ wx.cell? ⟨db, 6, none⟩ = some c6) := hide fun wx t =>
    have X := HD.out.desk.turned t nD.out
    ⟨X.cell 0, X.cell 1, X.cell 2, X.cell 3, X.cell 4, X.cell 5, X.cell 6⟩
  obtain ⟨j0, j1, j2, j3, j4, j5, j6⟩ := KD.out W (Stirred.refl _ _)
  have HH := hide h
  have VB : Hid (∀ wx, Stirred [rm] W wx → Vars wx) := hide fun wx t => HV.out.low (t.below HV.out.n (fun j hj => by
    have e : j = rm := by simpa using hj
    rw [e]
    exact HD.out.low DeskV.rmOwned)) t.size
  have hkv := h.kept
  unfold KeptV at hkv
  rw [hk] at hkv
  obtain ⟨rfl, rfl, rfl, rfl⟩ := hkv
  clear h hW hP1 hsz har hw0
  have KX : Hid (∀ wx, Stirred [rm] W wx → wx.cell? ⟨w.heap.size, 0, none⟩ = some (.string x) ∧ wx.cell? ⟨w.heap.size, 1, none⟩ = some (.slice (some ⟨g, off, none⟩) 1 cp) ∧ wx.cell? ⟨g, off, none⟩ = some (.string x0) ∧ wx.cell? ⟨db, 1, none⟩ = some (.pointer (some ⟨sb, 0, none⟩)) ∧ wx.cell? ⟨db, 2, none⟩ = some (.map (some rm)) ∧ wx.cell? ⟨db, 3, none⟩ = some (.int .i64 0) ∧ wx.cell? ⟨db, 4, none⟩ = some (.string ⟨#[]⟩) ∧ wx.cell? ⟨db, 5, none⟩ = some (.slice none 0 0) ∧ wx.cell? ⟨db, 6, none⟩ = some (.int .i64 0)) := hide fun wx t =>
    have a := KB.out wx t
    have b := KD.out wx t
    ⟨a.1, a.2.1, a.2.2.2, b.2.1, b.2.2.1, b.2.2.2.1, b.2.2.2.2.1, b.2.2.2.2.2.1, b.2.2.2.2.2.2⟩
  have SV := hide (srcVault_any B W.drew sb fb vb mt mv vf _ _ s.sec s.h.σ s.h.τ s.h.rs (HD.out.src.still (Below.refl _ W).drew))
  have hR : loadR s x xs = .inl 1 := by unfold loadR; rw [hk]
  have FIN : Hid (∀ wx, Below w.heap.size w wx → OutD db s 21 x xs z w (thrown 1) wx) := hide fun wx bT =>
    ⟨.inl 1, .inr (.inr (.inr (.inr (.inr (.inr (.inr (.inl ⟨rfl, hR.symm⟩))))))), .inl ⟨1, rfl, by omega, rfl, HH.out.same bT⟩, Quiet.of_below bT h11⟩
  clear hR
  have LZ := hide (load_zero vb W.drew)
  have VD := hide (HV.out.low (Below.refl lowK W).drew (Nat.le_refl _))
  go_enter Tryz.func21, Tryz.ntmps21
  go_wp2
  rw [HW.out]
  have KX0 := KX.out W.drew (Stirred.of_below (Below.refl _ W).drew [rm])
  refine wp_region_held (S := fun wx => wx.cell? ⟨w.heap.size, 0, none⟩ = some (.string x) ∧ wx.cell? ⟨w.heap.size, 1, none⟩ = some (.slice (some ⟨g, off, none⟩) 1 cp) ∧ wx.cell? ⟨g, off, none⟩ = some (.string x0) ∧ wx.cell? ⟨db, 1, none⟩ = some (.pointer (some ⟨sb, 0, none⟩)) ∧ wx.cell? ⟨db, 2, none⟩ = some (.map (some rm)) ∧ wx.cell? ⟨db, 3, none⟩ = some (.int .i64 0) ∧ wx.cell? ⟨db, 4, none⟩ = some (.string ⟨#[]⟩) ∧ wx.cell? ⟨db, 5, none⟩ = some (.slice none 0 0) ∧ wx.cell? ⟨db, 6, none⟩ = some (.int .i64 0)) (by kernel_rfl) ?_
  refine wpAnyH_take (i := 0) (v := .pointer (some ⟨db, 0, none⟩)) rfl (by kernel_rfl) (by kernel_rfl) (by kernel_rfl) (fun _ _ _ h => h) (Or.inl ⟨by rfl, fun wx hx => by simp [go_sem]⟩) KX0 ?_
  refine wpAnyH_take (i := 1) (v := .pointer (some ⟨db, 0, none⟩)) rfl (by kernel_rfl) (by kernel_rfl) (by kernel_rfl) (fun _ _ _ h => h) (Or.inl ⟨by rfl, fun wx hx => by simp [go_sem]⟩) KX0 ?_
  refine wpAnyH_take (i := 2) (v := .pointer (some ⟨db, 2, none⟩)) rfl (by kernel_rfl) (by kernel_rfl) (by kernel_rfl) (fun _ _ _ h => h) (Or.inl ⟨by rfl, fun wx hx => by simp [go_sem]⟩) KX0 ?_
  refine wpAnyH_take (i := 3) (v := .map (some rm)) rfl (by kernel_rfl) (by kernel_rfl) (by kernel_rfl) (fun _ _ _ h => h) (Or.inl ⟨by rfl, fun wx hx => by simp [go_sem, hx]⟩) KX0 ?_
  refine wpAnyH_take (i := 4) (v := .pointer (some ⟨w.heap.size, 1, none⟩)) rfl (by kernel_rfl) (by kernel_rfl) (by kernel_rfl) (fun _ _ _ h => h) (Or.inl ⟨by rfl, fun wx hx => by simp [go_sem]⟩) KX0 ?_
  refine wpAnyH_take (i := 5) (v := .slice (some ⟨g, off, none⟩) 1 cp) rfl (by kernel_rfl) (by kernel_rfl) (by kernel_rfl) (fun _ _ _ h => h) (Or.inl ⟨by rfl, fun wx hx => by simp [go_sem, hx]⟩) KX0 ?_
  refine wpAnyH_take (i := 6) (v := .pointer (some ⟨g, off, none⟩)) rfl (by kernel_rfl) (by kernel_rfl) (by kernel_rfl) (fun _ _ _ h => h) (Or.inl ⟨by rfl, fun wx hx => by simp [go_sem]⟩) KX0 ?_
  refine wpAnyH_take (i := 7) (v := .string x0) rfl (by kernel_rfl) (by kernel_rfl) (by kernel_rfl) (fun _ _ _ h => h) (Or.inl ⟨by rfl, fun wx hx => by simp [go_sem, hx]⟩) KX0 ?_
  refine wpAnyH_take (i := 8) (v := .pointer (some ⟨db, 0, none⟩)) rfl (by kernel_rfl) (by kernel_rfl) (by kernel_rfl) (fun _ _ _ h => h) (Or.inl ⟨by rfl, fun wx hx => by simp [go_sem]⟩) KX0 ?_
  refine wpAnyH_take (i := 9) (v := .pointer (some ⟨db, 0, none⟩)) rfl (by kernel_rfl) (by kernel_rfl) (by kernel_rfl) (fun _ _ _ h => h) (Or.inl ⟨by rfl, fun wx hx => by simp [go_sem]⟩) KX0 ?_
  refine wpAnyH_take (i := 10) (v := .pointer (some ⟨db, 1, none⟩)) rfl (by kernel_rfl) (by kernel_rfl) (by kernel_rfl) (fun _ _ _ h => h) (Or.inl ⟨by rfl, fun wx hx => by simp [go_sem]⟩) KX0 ?_
  refine wpAnyH_take (i := 11) (v := .pointer (some ⟨sb, 0, none⟩)) rfl (by kernel_rfl) (by kernel_rfl) (by kernel_rfl) (fun _ _ _ h => h) (Or.inl ⟨by rfl, fun wx hx => by simp [go_sem, hx]⟩) KX0 ?_
  refine wpAnyH_take (i := 13) (v := .pointer (some ⟨db, 0, none⟩)) rfl (by kernel_rfl) (by kernel_rfl) (by kernel_rfl) (fun _ _ _ h => h) (Or.inl ⟨by rfl, fun wx hx => by simp [go_sem]⟩) KX0 ?_
  refine wpAnyH_take (i := 14) (v := .pointer (some ⟨db, 0, none⟩)) rfl (by kernel_rfl) (by kernel_rfl) (by kernel_rfl) (fun _ _ _ h => h) (Or.inl ⟨by rfl, fun wx hx => by simp [go_sem]⟩) KX0 ?_
  refine wpAnyH_take (i := 15) (v := .pointer (some ⟨db, 3, none⟩)) rfl (by kernel_rfl) (by kernel_rfl) (by kernel_rfl) (fun _ _ _ h => h) (Or.inl ⟨by rfl, fun wx hx => by simp [go_sem]⟩) KX0 ?_
  refine wpAnyH_take (i := 16) (v := .agg #[.int .i64 0, .string ⟨#[]⟩, .slice none 0 0, .int .i64 0]) rfl (by kernel_rfl) (by kernel_rfl) (by kernel_rfl) (fun _ _ _ h => h) (Or.inl ⟨by rfl, fun wx hx => by simp [go_sem, hx]⟩) KX0 ?_
  refine wpAnyH_all (rs := [12]) (by kernel_rfl) (by simp) ?_
  intro i hi
  obtain rfl : i = 12 := by simpa using hi
  clear hi
  simp [wpOp, Oper.wp, Oper.upon, go_sem]
  refine Or.inl (SV.out.mono ?_)
  rintro y w2 ⟨rfl, hw⟩
  obtain rfl := hw.symm
  refine ⟨KX0, ?_⟩
  refine wpAnyH_all (rs := [17]) (by kernel_rfl) (by simp) ?_
  intro i hi
  obtain rfl : i = 17 := by simpa using hi
  clear hi
  simp [wpOp, Oper.wp, Oper.upon, go_sem]
  refine Or.inl (LZ.out.mono ?_)
  rintro y w3 ⟨rfl, hb3⟩
  have B3 := hide (below_of_drew hb3)
  have T3 := hide (Stirred.of_below B3.out [rm])
  have K2 := KX.out w3 T3.out
  have M54 := hide (must54_bad 1 none w3 (VD.out.e.below hb3 VD.out.e.lt))
  clear hb3
  refine ⟨K2, ?_⟩
  refine wpAnyH_take (i := 18) (v := .pointer none) rfl (by kernel_rfl) (by kernel_rfl) (by kernel_rfl) (fun _ _ _ h => h) (Or.inl ⟨by rfl, fun wx hx => by simp [go_sem]⟩) K2 ?_
  refine wpAnyH_take (i := 19) (v := .iface 25 (.int .i64 1)) rfl (by kernel_rfl) (by kernel_rfl) (by kernel_rfl) (fun _ _ _ h => h) (Or.inl ⟨by rfl, fun wx hx => by simp [go_sem]⟩) K2 ?_
  refine wpAnyH_all (rs := [20]) (by kernel_rfl) (by simp) ?_
  intro i hi
  obtain rfl : i = 20 := by simpa using hi
  clear hi
  simp [wpOp, Oper.wp, Oper.upon, go_sem]
  refine Or.inl (M54.out.mono ?_)
  rintro y w4 ⟨rfl, hb4⟩
  have B4 := hide (B3.out.trans (hb4.mono B3.out.size))
  dsimp only [thrown]
  exact ⟨rfl, FIN.out w4 (B0.out.trans (B4.out.mono B0.out.size))⟩
set_option maxRecDepth 100000 in
set_option maxHeartbeats 4000000 in
theorem load_some (db : Nat) (s : DeskS) (w : World) (x : ByteArray) (v : Value) (xs : List ByteArray) (z : Int) (hD : Desk db s w) (hc : s.c ≤ 30000) (hV : Vars w) (hP : LineW w v xs) (hsz : ((x :: xs).map fun y => y.size + 1).sum ≤ 30001) (har : ∀ n, arOf 1 = some n → xs.length = n) (k : RdS) (hk : s.kept = some k) :
    Calls Tryz.prog 21 #[.pointer (some ⟨db, 0, none⟩), .agg #[.string x, v, .int .i64 z]] w fun e w' => OutD db s 21 x xs z w e w' := by
  obtain ⟨κ, B, ob, sb, fb, vb, mt, mv, vf, rm, ρ, c3, c4, c5, c6, h⟩ := hD
  obtain ⟨hP1, p, cp, rfl, hcp⟩ := hP
  have hx := (size_words hsz).1
  have hlen : xs.length = 1 := har 1 rfl
  obtain ⟨g, off, rfl, hg, hw0⟩ := firstW hP1 (by omega)
  have hxz : (at_ xs 0).size ≤ 30000 := at_size (size_words hsz).2
  obtain ⟨x0, hx0⟩ : ∃ x0, at_ xs 0 = x0 := ⟨_, rfl⟩
  rw [hx0] at hw0 hxz
  have HX0 := hide hx0
  clear hx0
  rw [hlen]
  have X0 := hide (HasR.new w 65 #[.string x, .slice (some ⟨g, off, none⟩) 1 cp, .int .i64 z])
  have B0 := hide ((Below.refl w.heap.size w).alloc (Nat.le_refl _) (.cells #[.string x, .slice (some ⟨g, off, none⟩) 1 cp, .int .i64 z] 65))
  obtain ⟨W, hW⟩ : ∃ W, w.alloc (.cells #[.string x, .slice (some ⟨g, off, none⟩) 1 cp, .int .i64 z] 65) = W := ⟨_, rfl⟩
  rw [hW] at X0 B0
  have HW := hide hW
  have HD := hide (h.still B0.out)
  have h11 := hV.n
  have _hk11 := lowK_le
  have HV := hide (hV.low (B0.out.mono h11) B0.out.size)
  have hlS : s.h.ok.length ≤ 100 := h.good.len
  have nX : Hid (w.heap.size ∉ [rm]) := hide (h.rm_old (Nat.le_refl _))
  have nG : Hid (g ∉ [rm]) := hide (h.rm_cell hw0)
  have nD : Hid (db ∉ [rm]) := hide (h.rm_ne (by rw [h.kD]; simp))
  have gW : W.cell? ⟨g, off, none⟩ = some (.string x0) := (World.cell?_of_block (B0.out.block g hg)).trans hw0
  have lW : g < W.heap.size := Nat.lt_of_lt_of_le hg B0.out.size
  have KB : Hid (∀ wx, Stirred [rm] W wx → wx.cell? ⟨w.heap.size, 0, none⟩ = some (.string x) ∧ wx.cell? ⟨w.heap.size, 1, none⟩ = some (.slice (some ⟨g, off, none⟩) 1 cp) ∧ wx.cell? ⟨w.heap.size, 2, none⟩ = some (.int .i64 z) ∧ wx.cell? ⟨g, off, none⟩ = some (.string x0)) := hide fun wx t =>
    have X := X0.out.turned t nX.out
    ⟨X.cell 0, X.cell 1, X.cell 2, (t.cell (p := ⟨g, off, none⟩) lW nG.out).trans gW⟩
  obtain ⟨k0, k1, k2, k3⟩ := KB.out W (Stirred.refl _ _)
  have KD : Hid (∀ wx, Stirred [rm] W wx → wx.cell? ⟨db, 0, none⟩ = some (.map (some ob)) ∧ wx.cell? ⟨db, 1, none⟩ = some (.pointer (some ⟨sb, 0, none⟩)) ∧ wx.cell? ⟨db, 2, none⟩ = some (.map (some rm)) ∧ wx.cell? ⟨db, 3, none⟩ = some c3 ∧ wx.cell? ⟨db, 4, none⟩ = some c4 ∧ wx.cell? ⟨db, 5, none⟩ = some c5 ∧ wx.cell? ⟨db, 6, none⟩ = some c6) := hide fun wx t =>
    have X := HD.out.desk.turned t nD.out
    ⟨X.cell 0, X.cell 1, X.cell 2, X.cell 3, X.cell 4, X.cell 5, X.cell 6⟩
  obtain ⟨j0, j1, j2, j3, j4, j5, j6⟩ := KD.out W (Stirred.refl _ _)
  have HH := hide h
  have VB : Hid (∀ wx, Stirred [rm] W wx → Vars wx) := hide fun wx t => HV.out.low (t.below HV.out.n (fun j hj => by
    have e : j = rm := by simpa using hj
    rw [e]
    exact HD.out.low DeskV.rmOwned)) t.size
  have hkv := HD.out.kept
  unfold KeptV at hkv
  rw [hk] at hkv
  obtain ⟨rfl, rfl, rfl, ds, ho, hdl, hrow, _⟩ := hkv
  obtain ⟨p5, cp5, rfl⟩ := hrow.len
  obtain ⟨gk, km, k0m⟩ := h.good.kept k hk
  have hkq : k.q ≤ 100 := Nat.le_trans gk.q hlS
  have hkr := gk.right ho
  have LD := hide (load_any W.drew vb k.q k.lost k.m p5 cp5 lowK ds k.τ (hrow.below (Below.refl W.heap.size W).drew (Nat.le_refl _)) ho hkr (fun c hc => brief_right (hkr c hc)) (by omega) gk.lost km (fun e => ⟨k0m e, by omega⟩))
  have GK := hide gk
  clear h hW hP1 hsz har hw0 hrow ho hkr gk k0m km
  have KX : Hid (∀ wx, Stirred [rm] W wx → wx.cell? ⟨w.heap.size, 0, none⟩ = some (.string x) ∧ wx.cell? ⟨w.heap.size, 1, none⟩ = some (.slice (some ⟨g, off, none⟩) 1 cp) ∧ wx.cell? ⟨g, off, none⟩ = some (.string x0) ∧ wx.cell? ⟨db, 1, none⟩ = some (.pointer (some ⟨sb, 0, none⟩)) ∧ wx.cell? ⟨db, 2, none⟩ = some (.map (some rm)) ∧ wx.cell? ⟨db, 3, none⟩ = some (.int .i64 (k.q : Int)) ∧ wx.cell? ⟨db, 4, none⟩ = some (.string k.m) ∧ wx.cell? ⟨db, 5, none⟩ = some (.slice p5 ds.length cp5) ∧ wx.cell? ⟨db, 6, none⟩ = some (.int .i64 (k.lost : Int))) := hide fun wx t =>
    have a := KB.out wx t
    have b := KD.out wx t
    ⟨a.1, a.2.1, a.2.2.2, b.2.1, b.2.2.1, b.2.2.2.1, b.2.2.2.2.1, b.2.2.2.2.2.1, b.2.2.2.2.2.2⟩
  have SV := hide (srcVault_any B W.drew sb fb vb mt mv vf _ _ s.sec s.h.σ s.h.τ s.h.rs (HD.out.src.still (Below.refl _ W).drew))
  have M54 := hide must54
  go_enter Tryz.func21, Tryz.ntmps21
  go_upto_region 1 with fail
  rw [HW.out]
  go_region_held3 (fun wx => wx.cell? ⟨w.heap.size, 0, none⟩ = some (.string x) ∧ wx.cell? ⟨w.heap.size, 1, none⟩ = some (.slice (some ⟨g, off, none⟩) 1 cp) ∧ wx.cell? ⟨g, off, none⟩ = some (.string x0) ∧ wx.cell? ⟨db, 1, none⟩ = some (.pointer (some ⟨sb, 0, none⟩)) ∧ wx.cell? ⟨db, 2, none⟩ = some (.map (some rm)) ∧ wx.cell? ⟨db, 3, none⟩ = some (.int .i64 (k.q : Int)) ∧ wx.cell? ⟨db, 4, none⟩ = some (.string k.m) ∧ wx.cell? ⟨db, 5, none⟩ = some (.slice p5 ds.length cp5) ∧ wx.cell? ⟨db, 6, none⟩ = some (.int .i64 (k.lost : Int))) (first | (with_reducible exact K3.out) | (with_reducible exact K9.out) | go_keep)
    (first
    | (go_at_call 56; (with_reducible refine SV.out.mono ?_); rintro y w2 ⟨rfl, hw⟩; obtain rfl := hw.symm)
    | (go_at_call 55; (with_reducible refine LD.out.mono ?_); rintro y w3 ⟨xb, mx, rfl, hT3, hx3, hm3, hb3⟩; have B3 := hide (below_of_drew hb3); have T3 := hide (Stirred.of_below B3.out [rm]); have K3 := hide (KX.out w3 T3.out); have D3 := hide (HD.out.still B3.out); obtain ⟨Dm, nm, hnm, hom, hDm⟩ := D3.out.rds; obtain ⟨w9, D9, hrun9, hown9, hD9, ht9⟩ := rd_put hom hDm (by omega) x0 (by omega) xb mx; have T9 := hide (T3.out.andThen ht9 (fun j hj => .inl hj)); have K9 := hide (KX.out w9 T9.out); have S9 := hide ht9; have O9 := hide hown9; have R9 := hide hD9; have TX := hide hT3; have LX := hide (And.intro hx3 hm3); have HNM := hide hnm; clear hom hDm hown9 hD9 ht9 hT3 hx3 hm3 hb3 hnm)
    | (go_at_call 54; (with_reducible refine (M54.out _ _).mono ?_); rintro y w4 ⟨rfl, hw⟩; obtain rfl := hw.symm))
  have hDD : ∃ κ9, DeskV κ9 db (setR s x0 k) w9 B ob sb fb vb mt mv vf rm (setRho ρ x0 (xb, mx)) (.int .i64 (k.q : Int)) (.string k.m) (.slice p5 ds.length cp5) (.int .i64 (k.lost : Int)) := by
    have hl0 := B0.out.size
    have hsz : ∀ j ∈ xb :: mx.toList, W.heap.size ≤ j := fun j hj => by
      rcases List.mem_cons.1 hj with e | hj
      · rw [e]; exact LX.out.1
      · exact LX.out.2 j (by simpa using hj)
    exact D3.out.names TX.out hdl (fun j hj hm => by
      have h1 := HD.out.old hj
      have h2 := hsz j hm
      omega) (fun j hj => Nat.le_trans HV.out.n (hsz j hj)) (Nat.succ_le_succ HNM.out) O9.out R9.out S9.out GK.out
  have HDD := hide hDD
  have D9d := hide (hDD.elim fun κ9 h9 => h9.desk)
  have X9 := hide (X0.out.turned T9.out nX.out)
  have V9 := hide (VB.out w9 T9.out)
  have K4 : Hid (∀ wx, Below w9.heap.size w9 wx → wx.cell? ⟨w.heap.size, 0, none⟩ = some (.string x) ∧ wx.cell? ⟨db, 3, none⟩ = some (.int .i64 (k.q : Int))) := hide fun wx hb => ⟨(X9.out.below hb X9.out.lt).cell 0, (D9d.out.below hb D9d.out.lt).cell 3⟩
  obtain ⟨a0, a3⟩ := K4.out w9 (Below.refl _ _)
  have C13 := hide (itoaN_any k.q (by omega) w9.drew (V9.out.p.below (Below.refl _ w9).drew V9.out.p.lt))
  clear hDD hrun9 k0 k1 k2 k3 j0 j1 j2 j3 j4 j5 j6
  go_upto_region 2 with fail
  go_region_held3 (fun wx => wx.cell? ⟨w.heap.size, 0, none⟩ = some (.string x) ∧ wx.cell? ⟨db, 3, none⟩ = some (.int .i64 (k.q : Int))) (first | (with_reducible exact K5.out) | (with_reducible exact K6.out) | (with_reducible exact K8.out) | go_keep)
    (first
    | (go_at_call 13; (with_reducible refine C13.out.mono ?_); rintro y w5 ⟨rfl, hb5⟩; have B5 := hide (below_of_drew hb5); have K5 := hide (K4.out w5 B5.out); have K8 := hide (K4.out (w5.alloc (.cells #[.string (textL (itoaN k.q))] 9)) (B5.out.alloc B5.out.size _)); have C12 := hide (tell_one x (itoaN k.q) w5 hx (Nat.le_trans (itoaN_le _ (by omega)) (by omega))); clear hb5)
    | (go_at_call 12; (with_reducible refine C12.out.mono ?_); rintro y w6 ⟨rfl, hb6⟩; have B6 := hide (B5.out.trans (hb6.mono B5.out.size)); have K6 := hide (K4.out w6 B6.out); clear hb6))
  go_wp2
  go_ret
  have hR : loadR s x xs = toldR x [itoaN k.q] (setR s x0 k) := by
    unfold loadR
    rw [hk, HX0.out]
  have qq : Quiet w w6 := ((Quiet.of_below B0.out h11).trans (HD.out.quietM T9.out HV.out.n)).trans (Quiet.of_below B6.out V9.out.n)
  refine ⟨toldR x [itoaN k.q] (setR s x0 k), .inr (.inr (.inr (.inr (.inr (.inr (.inr (.inl ⟨rfl, hR.symm⟩))))))), .inr ⟨_, _, rfl, rfl, ?_, ?_⟩, qq⟩
  · exact told_one hx (Nat.le_trans (itoaN_le _ (by omega)) (by omega))
  · obtain ⟨κ9, h9⟩ := HDD.out
    exact h9.same B6.out
theorem cmd_load : CmdOk 21 (arOf 1) := by
  intro db s w x v xs z hD hc hV hP hsz har hz
  cases hk : s.kept with
  | none => exact load_none db s w x v xs z hD hc hV hP hsz har hk
  | some k => exact load_some db s w x v xs z hD hc hV hP hsz har k hk
end Go.Proofs.YtdjpghgnjcmdnaaGreatDoor

/- A desk's reader reads the next record; what it has read is passed over. -/
namespace Go.Proofs.YtdjpghgnjcmdnaaGreatDoor
open Go.RowKit Go.Shelf Go.Sort Go.Maps
set_option linter.unusedSectionVars false
variable [Inhabited LowT]
variable [Inhabited Cl] [Inhabited Ev]
section
variable {κ : Nat → Tag} {db : Nat} {s : DeskS} {w w' : World} {B ob sb fb vb : Nat} {mt mv : Option Nat} {v : Value} {rm : Nat} {ρ : Rho} {c3 c4 c5 c6 : Value}
theorem read_one (h : DeskV κ db s w B ob sb fb vb mt mv v rm ρ c3 c4 c5 c6) {x : ByteArray} {rb : Nat} {m : Option Nat} (hρ : ρ x = some (rb, m)) {r : RdS} (hr : s.rd x = some r) (hk : r.q < s.h.ok.length) (hV : Vars w) :
    Calls Tryz.prog 48 #[.pointer (some ⟨rb, 0, none⟩), .agg #[.int .i64 ((s.h.rs.getD r.q recZ).q : Int), .string (s.h.rs.getD r.q recZ).s, .int .i64 ((s.h.rs.getD r.q recZ).g : Int), .string (s.h.rs.getD r.q recZ).p, .string (s.h.rs.getD r.q recZ).d]] w fun y w' => y = .returned .nilIface ∧ ∃ κ' m', DeskV κ' db (rePut s x (readOne s.h r)) w' B ob sb fb vb mt mv v rm (setRho ρ x (rb, m')) c3 c4 c5 c6 ∧ (m' = m ∨ ∀ j, m' = some j → w.heap.size ≤ j) ∧ Stirred (rb :: m.toList) w w' := by
  have hd := h.good.did
  have hg := h.good.rd x r hr
  obtain ⟨r', nt, h1, h2, hT⟩ := h.each x rb m hρ
  have e : r' = r := by rw [hr] at h1; cases h1; rfl
  subst e
  have hrl := hd.both
  obtain ⟨hRO, hq, hp⟩ := hd.get hk
  have hfit : Fit (s.h.rs.getD r'.q recZ) := h.src.fit _ (getD_mem (by omega))
  obtain ⟨y, er, hx, hO⟩ := open_either hRO hfit
  have hbr := brief_right hRO.right
  have hE : (lossB s.h.ok r'.q = true ∧ er = .iface 25 (.int .i64 8)) ∨ (lossB s.h.ok r'.q = false ∧ er = .nilIface ∧ rightB y = true ∧ Brief y) := by
    rcases hx with ⟨a, b, c, d⟩ | ⟨a, b, c⟩
    · exact .inl ⟨lossB_iff.2 ⟨a, b⟩, d⟩
    · refine .inr ⟨?_, c, by rw [b]; exact hRO.right, by rw [b]; exact hbr⟩
      cases hb : lossB s.h.ok r'.q
      · rfl
      · exact absurd (lossB_iff.1 hb) a
  have hl := h.good.len
  have hlo := hg.lost
  have hgq := hg.q
  have h10 : 10 < w.heap.size := hV.tabs.n
  have _hk11 := lowK_le
  refine (read_next w rb vb r'.q r'.lost r'.m m nt r'.τ (s.h.rs.getD r'.q recZ) y er (lossB s.h.ok r'.q) hT (fun wx hb => hO _ _ _ _ _ _ _ _ _ _ _ _ (h.src.still hb) (hV.tabs.below hb h10)) hE (by omega) (by omega) (by omega) hq (by rw [hp, hg.mark]) hfit hV.k ?_).mono ?_
  · intro j hj
    have : lowK ≤ j := by
      rcases List.mem_cons.1 hj with rfl | hj
      · exact (h.lowR x _ m hρ).1
      · exact (h.lowR x rb m hρ).2 j (by simpa using hj)
    omega
  · rintro z w' ⟨rfl, m', hT', hm, hst⟩
    have hm2 : m' = m ∨ ∀ j, m' = some j → w.heap.size ≤ j := by
      rcases hm with hm | ⟨_, k, rfl, hk2⟩
      · exact .inl hm
      · exact .inr (fun j hj => by cases hj; exact hk2)
    have e2 : (if lossB s.h.ok r'.q = true then r'.τ else app y r'.τ) = (readOne s.h r').τ := by
      show _ = (if lossB s.h.ok r'.q = true then r'.τ else app (s.h.ok.getD r'.q ev0) r'.τ)
      rcases hx with ⟨a, b, c, d⟩ | ⟨a, b, c⟩
      · rw [if_pos (lossB_iff.2 ⟨a, b⟩), if_pos (lossB_iff.2 ⟨a, b⟩)]
      · rw [if_neg (fun z => a (lossB_iff.1 z)), if_neg (fun z => a (lossB_iff.1 z)), b]
    rw [e2] at hT'
    obtain ⟨κ', h3⟩ := h.read (r := readOne s.h r') hρ hT' (by show nt + 1 ≤ r'.q + 1; omega) hm2 hst hV.n (hg.one hd hk)
    exact ⟨rfl, κ', m', h3, hm2, hst⟩
theorem read_past (h : DeskV κ db s w B ob sb fb vb mt mv v rm ρ c3 c4 c5 c6) {x : ByteArray} {rb : Nat} {m : Option Nat} (hρ : ρ x = some (rb, m)) {r : RdS} (hr : s.rd x = some r) {j : Nat} (hj : j < r.q) :
    Calls Tryz.prog 48 #[.pointer (some ⟨rb, 0, none⟩), .agg #[.int .i64 ((s.h.rs.getD j recZ).q : Int), .string (s.h.rs.getD j recZ).s, .int .i64 ((s.h.rs.getD j recZ).g : Int), .string (s.h.rs.getD j recZ).p, .string (s.h.rs.getD j recZ).d]] w fun y w' => y = .returned .nilIface ∧ Below w.heap.size w w' := by
  obtain ⟨r', nt, h1, h2, hT⟩ := h.each x rb m hρ
  have e : r' = r := by rw [hr] at h1; cases h1; rfl
  subst e
  have hgq := (h.good.rd x r' hr).q
  have hq := (h.good.did.get (i := j) (by omega)).2.1
  exact read_old w rb vb r'.q r'.lost r'.m m nt r'.τ (s.h.rs.getD j recZ) hT (by omega) (by omega)
/-- How far a reader has read while records pass by. -/
theorem readTo_sub (hs : Hst) (r : RdS) (j : Nat) : readTo hs r (j + 1 - r.q) = if j < r.q then readTo hs r (j - r.q) else readOne hs (readTo hs r (j - r.q)) := by
  by_cases hj : j < r.q
  · rw [if_pos hj, show j + 1 - r.q = 0 by omega, show j - r.q = 0 by omega]
  · rw [if_neg hj, show j + 1 - r.q = (j - r.q) + 1 by omega]
    rfl
theorem readTo_at (hs : Hst) (r : RdS) (j : Nat) : (readTo hs r (j - r.q)).q = max r.q j := by
  rw [readTo_q]
  omega
/-- A record passes by a reader: it is the next one, or was read. -/
theorem read_pass {r0 : RdS} {x : ByteArray} {j : Nat} (h : DeskV κ db (setR s x (readTo s.h r0 (j - r0.q))) w B ob sb fb vb mt mv v rm ρ c3 c4 c5 c6) {rb : Nat} {m : Option Nat} (hρ : ρ x = some (rb, m)) (hj : j < s.h.ok.length) (hV : Vars w) :
    Calls Tryz.prog 48 #[.pointer (some ⟨rb, 0, none⟩), .agg #[.int .i64 ((s.h.rs.getD j recZ).q : Int), .string (s.h.rs.getD j recZ).s, .int .i64 ((s.h.rs.getD j recZ).g : Int), .string (s.h.rs.getD j recZ).p, .string (s.h.rs.getD j recZ).d]] w fun y w' => y = .returned .nilIface ∧ ∃ κ' ρ' m', DeskV κ' db (setR s x (readTo s.h r0 (j + 1 - r0.q))) w' B ob sb fb vb mt mv v rm ρ' c3 c4 c5 c6 ∧ ρ' x = some (rb, m') ∧ (m' = m ∨ ∀ j, m' = some j → w.heap.size ≤ j) ∧ Stirred (rb :: m.toList) w w' := by
  have hr : (setR s x (readTo s.h r0 (j - r0.q))).rd x = some (readTo s.h r0 (j - r0.q)) := by unfold setR; simp
  have hq := readTo_at s.h r0 j
  rw [readTo_sub]
  by_cases hlt : j < r0.q
  · rw [if_pos hlt]
    refine (read_past h hρ hr (j := j) (by rw [hq]; omega)).mono ?_
    rintro y w' ⟨rfl, hb⟩
    exact ⟨rfl, κ, ρ, m, h.still hb, hρ, .inl rfl, Stirred.of_below hb _⟩
  · rw [if_neg hlt]
    have e : (readTo s.h r0 (j - r0.q)).q = j := by rw [hq]; omega
    have hc := read_one h hρ hr (by rw [e]; exact hj) hV
    rw [e] at hc
    refine hc.mono ?_
    rintro y w' ⟨rfl, κ', m', h3, h4, h5⟩
    refine ⟨rfl, κ', setRho ρ x (rb, m'), m', ?_, by unfold setRho; rw [if_pos rfl], h4, h5⟩
    rw [put_set] at h3
    exact h3
end
end Go.Proofs.YtdjpghgnjcmdnaaGreatDoor

/- The order 'read'. -/
namespace Go.Proofs.YtdjpghgnjcmdnaaGreatDoor
open Go.RowKit Go.Shelf Go.Sort Go.Maps
set_option linter.unusedSectionVars false
variable [Inhabited LowT]
variable [Inhabited Cl] [Inhabited Ev]
attribute [local go_sem ↓] Go.wp_at_zero Go.wp_at_succ
theorem recs_at {w : World} {b n cap : Nat} {p : Option Addr} {rs : List Rec} {k : Nat} (h : w.ownsRow b 74 5 (.slice p n cap) rs.length (recsL rs)) (hk : k < rs.length) : ∃ g, p = some ⟨g, 0, none⟩ ∧ g < w.heap.size ∧ rs.length ≤ cap ∧ w.cell? ⟨g, k * 5, none⟩ = some (.int .i64 ((rs.getD k recZ).q : Int)) ∧ w.cell? ⟨g, k * 5 + 1, none⟩ = some (.string (rs.getD k recZ).s) ∧ w.cell? ⟨g, k * 5 + 2, none⟩ = some (.int .i64 ((rs.getD k recZ).g : Int)) ∧ w.cell? ⟨g, k * 5 + 3, none⟩ = some (.string (rs.getD k recZ).p) ∧ w.cell? ⟨g, k * 5 + 4, none⟩ = some (.string (rs.getD k recZ).d) := by
  rcases h.2 with ⟨_, e0⟩ | ⟨g, cap', cur, hv, hb, hg, h1, h2, h3, h4⟩
  · omega
  · injection hv with e1 e2 e3
    subst e1 e3
    have f : ∀ i u, (recL (rs.getD k recZ))[i]? = some u → w.cell? ⟨g, k * 5 + i, none⟩ = some u := fun i u hu => by
      have hi : i < 5 := (List.getElem?_eq_some_iff.1 hu).1
      rw [cell_of_row w g _ cur 74 (0, 0) hg, ← Array.getElem?_toList, ← List.getElem?_take_of_lt (j := rs.length * 5) (by omega), h4, recsL_at rs k i hk hi]
      exact hu
    exact ⟨g, rfl, lt_of_block hg, h1, f 0 _ rfl, f 1 _ rfl, f 2 _ rfl, f 3 _ rfl, f 4 _ rfl⟩
theorem row_turned {w w' : World} {b n : Nat} {v : Value} {l : List Value} {L : List Nat} (h : w.ownsRow b 74 5 v n l) (t : Stirred L w w') (hL : ∀ g, v.ownBlock = some g → g ∉ L) : w'.ownsRow b 74 5 v n l := ownsRow_turned h t hL
set_option maxRecDepth 100000 in
set_option maxHeartbeats 4000000 in
theorem cmd_read : CmdOk 17 (arOf 2) := by
  intro db s w x v xs z hD hc hV hP hsz har hz
  obtain ⟨κ, B, ob, sb, fb, vb, mt, mv, vf, rm, ρ, c3, c4, c5, c6, h⟩ := hD
  obtain ⟨hP1, p, cp, rfl, hcp⟩ := hP
  have hx := (size_words hsz).1
  have hlen : xs.length = 2 := har 2 rfl
  obtain ⟨g, off, rfl, hg, hw0⟩ := firstW hP1 (by omega)
  have hxz : (at_ xs 0).size ≤ 30000 := at_size (size_words hsz).2
  obtain ⟨x0, hx0⟩ : ∃ x0, at_ xs 0 = x0 := ⟨_, rfl⟩
  rw [hx0] at hw0 hxz
  have HX0 := hide hx0
  clear hx0
  rw [hlen]
  have X0 := hide (HasR.new w 65 #[.string x, .slice (some ⟨g, off, none⟩) 2 cp, .int .i64 z])
  have B0 := hide ((Below.refl w.heap.size w).alloc (Nat.le_refl _) (.cells #[.string x, .slice (some ⟨g, off, none⟩) 2 cp, .int .i64 z] 65))
  obtain ⟨W, hW⟩ : ∃ W, w.alloc (.cells #[.string x, .slice (some ⟨g, off, none⟩) 2 cp, .int .i64 z] 65) = W := ⟨_, rfl⟩
  rw [hW] at X0 B0
  have HW := hide hW
  have HD := hide (h.still B0.out)
  have h11 := hV.n
  have _hk11 := lowK_le
  have HV := hide (hV.low (B0.out.mono h11) B0.out.size)
  have hlS : s.h.ok.length ≤ 100 := h.good.len
  have nX : Hid (w.heap.size ∉ [rm]) := hide (h.rm_old (Nat.le_refl _))
  have nG : Hid (g ∉ [rm]) := hide (h.rm_cell hw0)
  have nD : Hid (db ∉ [rm]) := hide (h.rm_ne (by rw [h.kD]; simp))
  have gW : W.cell? ⟨g, off, none⟩ = some (.string x0) := (World.cell?_of_block (B0.out.block g hg)).trans hw0
  have lW : g < W.heap.size := Nat.lt_of_lt_of_le hg B0.out.size
  have KB : Hid (∀ wx, Stirred [rm] W wx → wx.cell? ⟨w.heap.size, 0, none⟩ = some (.string x) ∧ wx.cell? ⟨w.heap.size, 1, none⟩ = some (.slice (some ⟨g, off, none⟩) 2 cp) ∧ wx.cell? ⟨w.heap.size, 2, none⟩ = some (.int .i64 z) ∧ wx.cell? ⟨g, off, none⟩ = some (.string x0)) := hide fun wx t =>
    have X := X0.out.turned t nX.out
    ⟨X.cell 0, X.cell 1, X.cell 2, (t.cell (p := ⟨g, off, none⟩) lW nG.out).trans gW⟩
  obtain ⟨k0, k1, k2, k3⟩ := KB.out W (Stirred.refl _ _)
  have KD : Hid (∀ wx, Stirred [rm] W wx → wx.cell? ⟨db, 0, none⟩ = some (.map (some ob)) ∧ wx.cell? ⟨db, 1, none⟩ = some (.pointer (some ⟨sb, 0, none⟩)) ∧ wx.cell? ⟨db, 2, none⟩ = some (.map (some rm))) := hide fun wx t =>
    have X := HD.out.desk.turned t nD.out
    ⟨X.cell 0, X.cell 1, X.cell 2⟩
  obtain ⟨j0, j1, j2⟩ := KD.out W (Stirred.refl _ _)
  have HH := hide h
  have VB : Hid (∀ wx, Stirred [rm] W wx → Vars wx) := hide fun wx t => HV.out.low (t.below HV.out.n (fun j hj => by
    have e : j = rm := by simpa using hj
    rw [e]
    exact HD.out.low DeskV.rmOwned)) t.size
  clear h hW hP1 hsz har hw0
  obtain ⟨r0, hr0⟩ : ∃ r0, getR s x0 = r0 := ⟨_, rfl⟩
  have HR0 := hide hr0
  have C46 := hide (named_any HD.out x0 (by omega) hc HV.out.n)
  unfold NamedD at C46
  rw [hr0] at C46
  clear hr0
  go_enter Tryz.func17, Tryz.ntmps17
  go_upto_region 1 with fail
  rw [HW.out]
  have hrl : s.h.rs.length = s.h.ok.length := HH.out.good.did.both
  go_wp2_with (first
    | (go_at_call 46; (with_reducible refine C46.out.mono ?_); rintro y w2 ⟨rb, m, κ2, ρ2, rfl, hd2, hρ2, t2⟩; have D2 := hide hd2; have T2 := hide t2; have R2 := hide hρ2; have V2 := hide (VB.out w2 T2.out); have d1 : w2.cell? ⟨db, 1, none⟩ = some (.pointer (some ⟨sb, 0, none⟩)) := D2.out.desk.cell 1; have C47 := hide (srcFeed_any B w2 sb fb vb mt mv vf s.h.ok.length s.h.ok.length s.sec s.h.σ s.h.τ s.h.rs hd2.src (by omega)); clear hd2 t2 hρ2)
    | (go_at_call 47; (with_reducible refine C47.out.mono ?_); rintro y w3 ⟨u, rfl, hrow, hb3⟩; obtain ⟨p2, cp2, rfl⟩ := ownsRow_slice hrow; have B3 := hide hb3; have T3 := hide (T2.out.then_below hb3); have D3 := hide (D2.out.still hb3); have ROW := hide hrow; clear hrow hb3))
  have V3 := hide (VB.out w3 T3.out)
  have X3 := hide (X0.out.turned T3.out nX.out)
  obtain ⟨n3, hn3, hT3⟩ := D3.out.tab R2.out
  have nX3 : Hid (w.heap.size ∉ rb :: m.toList) := hide (fun hm => by
    rcases List.mem_cons.1 hm with e | hm
    · exact X3.out.apartT hT3.row (by decide) e
    · obtain ⟨D, ho, _⟩ := hT3.held w.heap.size (by simpa using hm)
      exact X3.out.noMap ho rfl)
  have nR3 : Hid (∀ g2, (Value.slice p2 s.h.rs.length cp2).ownBlock = some g2 → g2 ∉ rb :: m.toList) := hide (fun g2 hg2 hm => by
    obtain ⟨cs, hcs⟩ := ownsRow_has ROW.out hg2
    rcases List.mem_cons.1 hm with e | hm
    · exact hcs.apartT hT3.row (by decide) e
    · obtain ⟨D, ho, _⟩ := hT3.held g2 (by simpa using hm)
      exact hcs.noMap ho rfl)
  have lowR : Hid (∀ j ∈ rb :: m.toList, lowK ≤ j ∧ Owned db ob sb fb vb mt mv vf rm ρ2 c5 j) := hide (fun j hj => by
    have ho : Owned db ob sb fb vb mt mv vf rm ρ2 c5 j := by
      rcases List.mem_cons.1 hj with e | hm
      · exact .inr (.inr (.inr (.inr (.inr ⟨x0, rb, m, R2.out, .inl e⟩))))
      · exact .inr (.inr (.inr (.inr (.inr ⟨x0, rb, m, R2.out, .inr (by simpa using hm)⟩))))
    exact ⟨D3.out.low ho, ho⟩)
  have VL : Hid (∀ wx, Stirred (rb :: m.toList) w3 wx → Vars wx) := hide fun wx t => V3.out.low (t.below V3.out.n (fun j hj => (lowR.out j hj).1)) t.size
  have START : Hid (∃ κ' ρ' m', DeskV κ' db (setR s x0 (readTo s.h r0 (0 - r0.q))) w3 B ob sb fb vb mt mv vf rm ρ' c3 c4 c5 c6 ∧ ρ' x0 = some (rb, m') ∧ (m' = m ∨ ∀ k, m' = some k → w3.heap.size ≤ k) ∧ Stirred (rb :: m.toList) w3 w3) := hide (by
    rw [Nat.zero_sub]
    exact ⟨κ2, ρ2, m, D3.out, R2.out, .inl rfl, Stirred.refl _ _⟩)
  have QQ := hide ((Quiet.of_below B0.out h11).trans (HD.out.quietM T3.out HV.out.n))
  clear hT3 hn3 d1
  go_loopw [23] (fun i wr => ∃ j : Nat, i = .int .i64 j ∧ j ≤ s.h.rs.length ∧ j ≤ z.toNat ∧ ∃ κ' ρ' m', DeskV κ' db (setR s x0 (readTo s.h r0 (j - r0.q))) wr B ob sb fb vb mt mv vf rm ρ' c3 c4 c5 c6 ∧ ρ' x0 = some (rb, m') ∧ (m' = m ∨ ∀ k, m' = some k → w3.heap.size ≤ k) ∧ Stirred (rb :: m.toList) w3 wr) (fun i _ => s.h.rs.length - (intOf i).toNat)
  case atStart => exact ⟨0, rfl, Nat.zero_le _, Nat.zero_le _, START.out⟩
  case round =>
    clear START k0 k1 k2 k3 j0 j1 j2
    obtain ⟨j, rfl, hj, hjz, κr, ρr, mr, hDr, hρr, hmr, tr⟩ := hrel
    have DR := hide hDr
    have RR := hide hρr
    have TR := hide tr
    have MR := hide hmr
    have VR := hide (VL.out wr tr)
    have XR := hide (X3.out.turned tr nX3.out)
    have x0c : wr.cell? ⟨w.heap.size, 0, none⟩ = some (.string x) := XR.out.cell 0
    have x2c : wr.cell? ⟨w.heap.size, 2, none⟩ = some (.int .i64 z) := XR.out.cell 2
    have lX := XR.out.lt
    clear hDr hρr hmr tr
    by_cases hlt : j < s.h.rs.length
    · obtain ⟨g3, rfl, hg3, hcap, e0, e1, e2, e3, e4⟩ := recs_at (row_turned ROW.out TR.out nR3.out) hlt
      have hqj : (s.h.rs.getD j recZ).q = j + 1 := (HH.out.good.did.get (i := j) (by omega)).2.1
      have i1 : (j : Int) < (s.h.rs.length : Int) := by omega
      by_cases hz2 : z < (j : Int) + 1
      · have hqq : ((s.h.rs.getD j recZ).q : Int) > z := by omega
        have hqq2 : z < ((s.h.rs.getD j recZ).q : Int) := by omega
        have HJ : Hid (j = min z.toNat s.h.ok.length) := hide (by omega)
        generalize s.h.rs.getD j recZ = rec at e0 e1 e2 e3 e4 hqq hqq2 hqj
        clear hqj
        have AB := hide ((Below.refl wr.heap.size wr).alloc (Nat.le_refl _) (.cells #[.int .i64 (rec.q : Int), .string rec.s, .int .i64 (rec.g : Int), .string rec.p, .string rec.d] 74))
        obtain ⟨wt, hwt⟩ : ∃ wt, wr.alloc (.cells #[.int .i64 (rec.q : Int), .string rec.s, .int .i64 (rec.g : Int), .string rec.p, .string rec.d] 74) = wt := ⟨_, rfl⟩
        have HWT := hide hwt
        rw [hwt] at AB
        clear hwt
        go_upto_region 10 with fail
        rw [HWT.out]
        have DT := hide (DR.out.still AB.out)
        have hq2 : (readTo s.h r0 (j - r0.q)).q ≤ 100 := Nat.le_trans (DR.out.good.rd x0 _ (show (setR s x0 (readTo s.h r0 (j - r0.q))).rd x0 = some (readTo s.h r0 (j - r0.q)) by unfold setR; simp)).q hlS
        obtain ⟨nt, hnt, hTt⟩ := DT.out.tab RR.out
        have HTT := hide hTt
        clear hTt
        obtain ⟨r2, hr2⟩ : ∃ r2, readTo s.h r0 (j - r0.q) = r2 := ⟨_, rfl⟩
        rw [hr2] at HTT hq2
        have HR2 := hide hr2
        have XT := hide (XR.out.below AB.out XR.out.lt)
        have VT := hide (VR.out.low (AB.out.mono VR.out.n) AB.out.size)
        clear hr2 hnt
        go_wp2_with (go_at_call 50; (with_reducible refine (at_any _ rb vb r2.q r2.lost r2.m mr nt r2.τ HTT.out).mono ?_); rintro y w5 ⟨rfl, hb5⟩; have B5 := hide hb5; clear hb5)
        have KT : Hid (∀ wx, Below w5.heap.size w5 wx → wx.cell? ⟨w.heap.size, 0, none⟩ = some (.string x)) := hide fun wx hb => ((XT.out.below B5.out XT.out.lt).below hb (XT.out.below B5.out XT.out.lt).lt).cell 0
        have a0 := KT.out w5 (Below.refl _ _)
        have V5 := hide (VT.out.low (B5.out.mono VT.out.n) B5.out.size)
        have C13 := hide (itoaN_any r2.q (by omega) w5.drew (V5.out.p.below (Below.refl _ w5).drew V5.out.p.lt))
        go_region_held3 (fun wx => wx.cell? ⟨w.heap.size, 0, none⟩ = some (.string x)) (first | (with_reducible exact K6.out) | (with_reducible exact K7.out) | (with_reducible exact K9.out) | go_keep)
          (first
          | (go_at_call 13; (with_reducible refine C13.out.mono ?_); rintro y w6 ⟨rfl, hb6⟩; have B6 := hide (below_of_drew hb6); have K6 := hide (KT.out w6 B6.out); have K9 := hide (KT.out (w6.alloc (.cells #[.string (textL (itoaN r2.q))] 9)) (B6.out.alloc B6.out.size _)); have C12 := hide (tell_one x (itoaN r2.q) w6 hx (Nat.le_trans (itoaN_le _ (by omega)) (by omega))); clear hb6)
          | (go_at_call 12; (with_reducible refine C12.out.mono ?_); rintro y w7 ⟨rfl, hb7⟩; have B7 := hide (B6.out.trans (hb7.mono B6.out.size)); have K7 := hide (KT.out w7 B7.out); clear hb7))
        go_wp2
        go_ret
        have bF : Below wt.heap.size wt w7 := B5.out.trans (B7.out.mono B5.out.size)
        have qR : Quiet w3 wr := D3.out.quiet TR.out (fun k hk => .inl (lowR.out k hk).2) V3.out.n
        have qF : Quiet w w7 := ((QQ.out.trans qR).trans (Quiet.of_below AB.out VR.out.n)).trans (Quiet.of_below bF VT.out.n)
        have eR : readTo s.h r0 (min z.toNat s.h.ok.length - r0.q) = r2 := by rw [← HJ.out]; exact HR2.out
        have DF : Desk db (setR s x0 r2) w7 := by
          have h1 := DT.out.same bF
          rw [HR2.out] at h1
          exact h1
        refine ⟨readR s x xs z, .inr (.inr (.inr (.inl ⟨rfl, rfl⟩))), .inr ⟨toldL x [textL (itoaN r2.q)], setR s x0 r2, ?_, rfl, ?_, DF⟩, qF⟩
        · unfold readR
          simp only
          rw [HX0.out, HR0.out, eR]
          rfl
        · exact told_one hx (Nat.le_trans (itoaN_le _ (by omega)) (by omega))
      · have hqq : ¬ ((s.h.rs.getD j recZ).q : Int) > z := by omega
        have hqq2 : ¬ z < ((s.h.rs.getD j recZ).q : Int) := by omega
        have hzj : j + 1 ≤ z.toNat := by omega
        have AB := hide ((Below.refl wr.heap.size wr).alloc (Nat.le_refl _) (.cells #[.int .i64 ((s.h.rs.getD j recZ).q : Int), .string (s.h.rs.getD j recZ).s, .int .i64 ((s.h.rs.getD j recZ).g : Int), .string (s.h.rs.getD j recZ).p, .string (s.h.rs.getD j recZ).d] 74))
        have C48 := hide (read_pass (DR.out.still AB.out) RR.out (by omega) (VR.out.low (AB.out.mono VR.out.n) AB.out.size))
        have XA := hide (XR.out.below AB.out XR.out.lt)
        have xa2 := XA.out.cell 2
        generalize s.h.rs.getD j recZ = rec at e0 e1 e2 e3 e4 hqq hqq2 hqj C48 AB XA xa2
        clear hqj
        go_wp2_with (go_at_call 48; (with_reducible refine C48.out.mono ?_); rintro y w5 ⟨rfl, κ5, ρ5, m5, hD5, hρ5, hm5, t5⟩; have D5 := hide hD5; have R5 := hide hρ5; have M5 := hide hm5; have T5 := hide t5; clear hD5 hρ5 hm5 t5)
        have hAs := AB.out.size
        have hWs := TR.out.size
        have hMM : m5 = m ∨ ∀ k, m5 = some k → w3.heap.size ≤ k := by
          rcases M5.out with e | e
          · rcases MR.out with f | f
            · exact .inl (e.trans f)
            · exact .inr (fun k hk => f k (by rw [← e]; exact hk))
          · exact .inr (fun k hk => by have := e k hk; omega)
        have hTT : Stirred (rb :: m.toList) w3 w5 := (TR.out.then_below AB.out).andThen T5.out (fun k hk => by
          rcases List.mem_cons.1 hk with e | hk
          · exact .inl (by simp [e])
          · rcases MR.out with f | f
            · exact .inl (by rw [f] at hk; simp only [List.mem_cons]; exact .inr hk)
            · exact .inr (f k (by simpa using hk)))
        have R := And.intro (show j + 1 ≤ s.h.rs.length by omega) (And.intro hzj (⟨κ5, ρ5, m5, D5.out, R5.out, hMM, hTT⟩ : ∃ κ' ρ' m', DeskV κ' db (setR s x0 (readTo s.h r0 (j + 1 - r0.q))) w5 B ob sb fb vb mt mv vf rm ρ' c3 c4 c5 c6 ∧ ρ' x0 = some (rb, m') ∧ (m' = m ∨ ∀ k, m' = some k → w3.heap.size ≤ k) ∧ Stirred (rb :: m.toList) w3 w5))
        first
          | exact ⟨⟨j + 1, by go_num, R⟩, by simp [intOf]; omega⟩
          | ((repeat apply Exists.intro); exact ⟨⟨⟨j + 1, by go_num, R⟩, rfl⟩, by simp [intOf]; omega⟩)
    · have HJ : Hid (j = min z.toNat s.h.ok.length) := hide (by omega)
      have ej : (j : Int) = (s.h.rs.length : Int) := by omega
      have hnl : ¬ (j : Int) < (s.h.rs.length : Int) := by omega
      have AB := hide (Below.refl wr.heap.size wr)
      obtain ⟨wt, hwt⟩ : ∃ wt, wr = wt := ⟨_, rfl⟩
      subst hwt
      have DT := hide (DR.out.still AB.out)
      have hq2 : (readTo s.h r0 (j - r0.q)).q ≤ 100 := Nat.le_trans (DR.out.good.rd x0 _ (show (setR s x0 (readTo s.h r0 (j - r0.q))).rd x0 = some (readTo s.h r0 (j - r0.q)) by unfold setR; simp)).q hlS
      obtain ⟨nt, hnt, hTt⟩ := DT.out.tab RR.out
      have HTT := hide hTt
      clear hTt
      obtain ⟨r2, hr2⟩ : ∃ r2, readTo s.h r0 (j - r0.q) = r2 := ⟨_, rfl⟩
      rw [hr2] at HTT hq2
      have HR2 := hide hr2
      have XT := hide (XR.out.below AB.out XR.out.lt)
      have VT := hide (VR.out.low (AB.out.mono VR.out.n) AB.out.size)
      clear hr2 hnt
      go_wp2_with (go_at_call 50; (with_reducible refine (at_any _ rb vb r2.q r2.lost r2.m mr nt r2.τ HTT.out).mono ?_); rintro y w5 ⟨rfl, hb5⟩; have B5 := hide hb5; clear hb5)
      have KT : Hid (∀ wx, Below w5.heap.size w5 wx → wx.cell? ⟨w.heap.size, 0, none⟩ = some (.string x)) := hide fun wx hb => ((XT.out.below B5.out XT.out.lt).below hb (XT.out.below B5.out XT.out.lt).lt).cell 0
      have a0 := KT.out w5 (Below.refl _ _)
      have V5 := hide (VT.out.low (B5.out.mono VT.out.n) B5.out.size)
      have C13 := hide (itoaN_any r2.q (by omega) w5.drew (V5.out.p.below (Below.refl _ w5).drew V5.out.p.lt))
      go_region_held3 (fun wx => wx.cell? ⟨w.heap.size, 0, none⟩ = some (.string x)) (first | (with_reducible exact K6.out) | (with_reducible exact K7.out) | (with_reducible exact K9.out) | go_keep)
        (first
        | (go_at_call 13; (with_reducible refine C13.out.mono ?_); rintro y w6 ⟨rfl, hb6⟩; have B6 := hide (below_of_drew hb6); have K6 := hide (KT.out w6 B6.out); have K9 := hide (KT.out (w6.alloc (.cells #[.string (textL (itoaN r2.q))] 9)) (B6.out.alloc B6.out.size _)); have C12 := hide (tell_one x (itoaN r2.q) w6 hx (Nat.le_trans (itoaN_le _ (by omega)) (by omega))); clear hb6)
        | (go_at_call 12; (with_reducible refine C12.out.mono ?_); rintro y w7 ⟨rfl, hb7⟩; have B7 := hide (B6.out.trans (hb7.mono B6.out.size)); have K7 := hide (KT.out w7 B7.out); clear hb7))
      go_wp2
      go_ret
      have bF : Below wr.heap.size wr w7 := B5.out.trans (B7.out.mono B5.out.size)
      have qR : Quiet w3 wr := D3.out.quiet TR.out (fun k hk => .inl (lowR.out k hk).2) V3.out.n
      have qF : Quiet w w7 := ((QQ.out.trans qR).trans (Quiet.of_below AB.out VR.out.n)).trans (Quiet.of_below bF VT.out.n)
      have eR : readTo s.h r0 (min z.toNat s.h.ok.length - r0.q) = r2 := by rw [← HJ.out]; exact HR2.out
      have DF : Desk db (setR s x0 r2) w7 := by
        have h1 := DT.out.same bF
        rw [HR2.out] at h1
        exact h1
      refine ⟨readR s x xs z, .inr (.inr (.inr (.inl ⟨rfl, rfl⟩))), .inr ⟨toldL x [textL (itoaN r2.q)], setR s x0 r2, ?_, rfl, ?_, DF⟩, qF⟩
      · unfold readR
        simp only
        rw [HX0.out, HR0.out, eR]
        rfl
      · exact told_one hx (Nat.le_trans (itoaN_le _ (by omega)) (by omega))
end Go.Proofs.YtdjpghgnjcmdnaaGreatDoor
