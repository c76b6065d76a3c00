/- Texts of this proof, one behind the other. -/
import Derived.Deep.RegionHeld3
import Derived.Deep.DeepCutAuto
import Derived.Test.YtdjpghgnjcmdnaaGreatDoorPart41
/- A block of a key, as the program answers it. -/
namespace Go.Proofs.YtdjpghgnjcmdnaaGreatDoor
open Go.RowKit
attribute [local go_sem ↓] Go.wp_at_zero Go.wp_at_succ
set_option maxRecDepth 100000 in
set_option maxHeartbeats 400000 in
theorem block_bad (key nonce : ByteArray) (n : Int) (w : World) (h0 : -9223372036854775808 ≤ n) (h1 : n < 9223372036854775808) (hb : ¬ (key.size = 32 ∧ nonce.size = 12 ∧ 0 ≤ n ∧ n < 4294967296)) :
    Calls Tryz.prog 62 #[.string key, .int .i64 n, .string nonce] w fun e w' => e = .returned (.tuple #[.string ByteArray.empty, .iface 25 (.int .i64 1)]) ∧ w' = w := by
  have q := fit_any key nonce w
  by_cases h2 : (decide (key.size = 32) && decide (nonce.size = 12)) = true
  · rw [h2] at q
    simp at h2
    have h3 : ¬ (0 ≤ n ∧ n < 4294967296) := by intro h; exact hb ⟨h2.1, h2.2, h⟩
    have d1 : decide ((4294967295 : Int) < IntKind.u64.wrap n) = true := by rw [IntKind.wrap_u64]; simp; omega
    have Q1 := hide q
    clear q
    go_enter Tryz.func62, Tryz.ntmps62
    go_wp2_with (go_at_call 94; refine Q1.out.mono ?_; rintro e w1 ⟨rfl, rfl⟩)
    go_ret2
    exact ⟨rfl, rfl⟩
  · rw [Bool.not_eq_true] at h2
    rw [h2] at q
    have Q1 := hide q
    clear q
    go_enter Tryz.func62, Tryz.ntmps62
    go_wp2_with (go_at_call 94; refine Q1.out.mono ?_; rintro e w1 ⟨rfl, rfl⟩)
    go_ret2
    exact ⟨rfl, rfl⟩
set_option maxRecDepth 100000 in
set_option maxHeartbeats 400000 in
theorem block_ok (key nonce : ByteArray) (n : Nat) (w : World) (hk : key.size = 32) (hn : nonce.size = 12) (h1 : n < 4294967296) :
    Calls Tryz.prog 62 #[.string key, .int .i64 n, .string nonce] w fun e w' => e = .returned (.tuple #[.string ⟨(blockL key.data.toList (BitVec.ofNat 32 n) nonce.data.toList).toArray⟩, .nilIface]) ∧ Below w.heap.size w w' := by
  have q := fit_any key nonce w
  rw [show (decide (key.size = 32) && decide (nonce.size = 12)) = true by simp [hk, hn]] at q
  have q2 := block_any key nonce (BitVec.ofNat 32 n) hk hn w
  rw [N_ofNat n h1] at q2
  have lO := blockL_len key.data.toList (BitVec.ofNat 32 n) nonce.data.toList
  generalize blockL key.data.toList (BitVec.ofNat 32 n) nonce.data.toList = O at q2 lO ⊢
  have d1 : decide ((4294967295 : Int) < IntKind.u64.wrap n) = false := by rw [IntKind.wrap_u64]; simp; omega
  have d2 : IntKind.u32.wrap (n : Int) = (n : Int) := by rw [IntKind.wrap_u32']; omega
  have Q1 := hide q
  have Q2 := hide q2
  clear q q2
  go_enter Tryz.func62, Tryz.ntmps62
  go_wp2_with (first
    | (go_at_call 94; refine Q1.out.mono ?_; rintro e w1 ⟨rfl, rfl⟩)
    | (go_at_call 95; refine Q2.out.mono ?_; rintro e w2 ⟨rfl, hb2⟩)
    | ((with_reducible refine store_rowB 147 w2.heap.size O 147 (rowB zb) ?_ ?_ ?_ ?_ ?_ ?_); rfl; rfl; exact HasR.new w2 147 (rowB zb); (rw [rowB_size, lO, zb_len]); (rw [lO]; kernel_rfl); rw [zerosB]; generalize hW3 : World.setCells _ _ _ _ = W3; have hO3 : HasR W3 w2.heap.size 147 (rowB O) := whole_bytes (HasR.new w2 147 (rowB zb)) hW3 (by rw [lO, rowB_size, zb_len]); have hb3 : Below w2.heap.size w2 W3 := below_setCells' ((Below.refl _ _).alloc (Nat.le_refl _) _) hW3 (Nat.le_refl _); have hr3 := BR.of_row hO3 lO; clear hW3)
    | ((with_reducible refine conv_out' w2.heap.size 64 64 O ?_ hr3 ?_); rfl))
  go_ret2
  exact ⟨rfl, hb2.trans (hb3.mono hb2.size)⟩
end Go.Proofs.YtdjpghgnjcmdnaaGreatDoor

/- The order 'block'. -/
namespace Go.Proofs.YtdjpghgnjcmdnaaGreatDoor
open Go.RowKit Go.Shelf Go.Sort Go.Maps
set_option linter.unusedSectionVars false
variable [Inhabited LowT]
variable [Inhabited Cl] [Inhabited Ev]
attribute [local go_sem ↓] Go.wp_at_zero Go.wp_at_succ
theorem sum_str (s : ByteArray) (hs : s.size ≤ 800000) (w : World) (hK : TabK w) : Calls Tryz.prog 63 #[.string s] w fun e w' => e = .returned (.string (textL (sha s.data.toList))) ∧ Below w.heap.size w w' := sum_any s hs w hK
theorem blk_ok (l : List UInt8) (n : Nat) (w : World) (hk : l.length = 32) (h1 : n < 4294967296) :
    Calls Tryz.prog 62 #[.string (textL l), .int .i64 n, .string ⟨#[48, 48, 48, 48, 48, 48, 48, 48, 48, 48, 48, 48]⟩] w fun e w' => e = .returned (.tuple #[.string (textL (blockL l (BitVec.ofNat 32 n) nonceB.data.toList)), .nilIface]) ∧ Below w.heap.size w w' :=
  block_ok (textL l) nonceB n w hk rfl h1
theorem blk_bad (l : List UInt8) (n : Int) (w : World) (h0 : small64 n) (hb : n < 0 ∨ 4294967295 < n) :
    Calls Tryz.prog 62 #[.string (textL l), .int .i64 n, .string ⟨#[48, 48, 48, 48, 48, 48, 48, 48, 48, 48, 48, 48]⟩] w fun e w' => e = .returned (.tuple #[.string ⟨#[]⟩, .iface 25 (.int .i64 1)]) ∧ w' = w :=
  block_bad (textL l) nonceB n w h0.1 (by have := h0.2; omega) (fun h => by omega)
set_option maxRecDepth 100000 in
set_option maxHeartbeats 4000000 in
theorem block_order_bad (db : Nat) (s : DeskS) (w : World) (x : ByteArray) (v : Value) (xs : List ByteArray) (z : Int) (hD : Desk db s w) (hV : Vars w) (hP : LineW w v xs) (hsz : ((x :: xs).map fun y => y.size + 1).sum ≤ 30001) (har : ∀ n, arOf 2 = some n → xs.length = n) (hz : small64 z) (hbad : z < 0 ∨ 4294967295 < z) :
    Calls Tryz.prog 25 #[.pointer (some ⟨db, 0, none⟩), .agg #[.string x, v, .int .i64 z]] w fun e w' => OutD db s 25 x xs z w e w' := by
  obtain ⟨κ, B, ob, sb, fb, vb, mt, mv, vf, rm, ρ, c3, c4, c5, c6, h⟩ := hD
  obtain ⟨hP1, p, cp, rfl, hcp⟩ := hP
  have hx := (size_words hsz).1
  have hlen : xs.length = 2 := har 2 rfl
  obtain ⟨g, off, rfl, hg, hw0⟩ := firstW hP1 (by omega)
  have hxz : (at_ xs 0).size ≤ 30000 := at_size (size_words hsz).2
  obtain ⟨x0, hx0⟩ : ∃ x0, at_ xs 0 = x0 := ⟨_, rfl⟩
  rw [hx0] at hw0 hxz
  have HX0 := hide hx0
  clear hx0
  rw [hlen]
  have X0 := hide (HasR.new w 65 #[.string x, .slice (some ⟨g, off, none⟩) 2 cp, .int .i64 z])
  have B0 := hide ((Below.refl w.heap.size w).alloc (Nat.le_refl _) (.cells #[.string x, .slice (some ⟨g, off, none⟩) 2 cp, .int .i64 z] 65))
  obtain ⟨W, hW⟩ : ∃ W, w.alloc (.cells #[.string x, .slice (some ⟨g, off, none⟩) 2 cp, .int .i64 z] 65) = W := ⟨_, rfl⟩
  rw [hW] at X0 B0
  have HW := hide hW
  have HD := hide (h.still B0.out)
  have h11 := hV.n
  have _hk11 := lowK_le
  have HV := hide (hV.low (B0.out.mono h11) B0.out.size)
  have hlS : s.h.ok.length ≤ 100 := h.good.len
  have nX : Hid (w.heap.size ∉ [rm]) := hide (h.rm_old (Nat.le_refl _))
  have nG : Hid (g ∉ [rm]) := hide (h.rm_cell hw0)
  have nD : Hid (db ∉ [rm]) := hide (h.rm_ne (by rw [h.kD]; simp))
  have gW : W.cell? ⟨g, off, none⟩ = some (.string x0) := (World.cell?_of_block (B0.out.block g hg)).trans hw0
  have lW : g < W.heap.size := Nat.lt_of_lt_of_le hg B0.out.size
  have KB : Hid (∀ wx, Stirred [rm] W wx → wx.cell? ⟨w.heap.size, 0, none⟩ = some (.string x) ∧ wx.cell? ⟨w.heap.size, 1, none⟩ = some (.slice (some ⟨g, off, none⟩) 2 cp) ∧ wx.cell? ⟨w.heap.size, 2, none⟩ = some (.int .i64 z) ∧ wx.cell? ⟨g, off, none⟩ = some (.string x0)) := hide fun wx t =>
    have X := X0.out.turned t nX.out
    ⟨X.cell 0, X.cell 1, X.cell 2, (t.cell (p := ⟨g, off, none⟩) lW nG.out).trans gW⟩
  obtain ⟨k0, k1, k2, k3⟩ := KB.out W (Stirred.refl _ _)
  have KD : Hid (∀ wx, Stirred [rm] W wx → wx.cell? ⟨db, 0, none⟩ = some (.map (some ob)) ∧ wx.cell? ⟨db, 1, none⟩ = some (.pointer (some ⟨sb, 0, none⟩)) ∧ wx.cell? ⟨db, 2, none⟩ = some (.map (some rm))) := hide fun wx t =>
    have X := HD.out.desk.turned t nD.out
    ⟨X.cell 0, X.cell 1, X.cell 2⟩
  obtain ⟨j0, j1, j2⟩ := KD.out W (Stirred.refl _ _)
  have HH := hide h
  have VB : Hid (∀ wx, Stirred [rm] W wx → Vars wx) := hide fun wx t => HV.out.low (t.below HV.out.n (fun j hj => by
    have e : j = rm := by simpa using hj
    rw [e]
    exact HD.out.low DeskV.rmOwned)) t.size
  clear h hW hP1 hsz har hw0
  have hR : blockR s x xs z = .inl 1 := by unfold blockR; rw [if_pos hbad]
  have FIN : Hid (∀ wx, Below w.heap.size w wx → OutD db s 25 x xs z w (thrown 1) wx) := hide fun wx bT =>
    ⟨.inl 1, .inr (.inr (.inr (.inr (.inr (.inr (.inr (.inr (.inr (.inr (.inr (.inl ⟨rfl, hR.symm⟩))))))))))), .inl ⟨1, rfl, by omega, rfl, HH.out.same bT⟩, Quiet.of_below bT h11⟩
  clear hR
  have C63 := hide (sum_str x0 (by omega) W.drew (VB.out W.drew (Stirred.of_below (Below.refl _ W).drew [rm])).k)
  have C62 := hide (fun wx => blk_bad (sha x0.data.toList) z wx hz hbad)
  generalize textL (sha x0.data.toList) = kt at C63 C62
  have KX0 := KB.out W.drew (Stirred.of_below (Below.refl _ W).drew [rm])
  clear hbad hz
  go_enter Tryz.func25, Tryz.ntmps25
  go_upto_region 1 with fail
  rw [HW.out]
  refine wp_region_held (S := fun wx => wx.cell? ⟨w.heap.size, 0, none⟩ = some (.string x) ∧ wx.cell? ⟨w.heap.size, 1, none⟩ = some (.slice (some ⟨g, off, none⟩) 2 cp) ∧ wx.cell? ⟨w.heap.size, 2, none⟩ = some (.int .i64 z) ∧ wx.cell? ⟨g, off, none⟩ = some (.string x0)) (by kernel_rfl) ?_
  refine wpAnyH_take (i := 0) (v := .pointer (some ⟨w.heap.size, 0, none⟩)) rfl (by kernel_rfl) (by kernel_rfl) (by kernel_rfl) (fun _ _ _ h => h) (Or.inl ⟨by rfl, fun wx hx => by simp [go_sem]⟩) KX0 ?_
  refine wpAnyH_take (i := 1) (v := .string x) rfl (by kernel_rfl) (by kernel_rfl) (by kernel_rfl) (fun _ _ _ h => h) (Or.inl ⟨by rfl, fun wx hx => by simp [go_sem, hx]⟩) KX0 ?_
  refine wpAnyH_take (i := 2) (v := .pointer (some ⟨w.heap.size, 1, none⟩)) rfl (by kernel_rfl) (by kernel_rfl) (by kernel_rfl) (fun _ _ _ h => h) (Or.inl ⟨by rfl, fun wx hx => by simp [go_sem]⟩) KX0 ?_
  refine wpAnyH_take (i := 3) (v := .slice (some ⟨g, off, none⟩) 2 cp) rfl (by kernel_rfl) (by kernel_rfl) (by kernel_rfl) (fun _ _ _ h => h) (Or.inl ⟨by rfl, fun wx hx => by simp [go_sem, hx]⟩) KX0 ?_
  refine wpAnyH_take (i := 4) (v := .pointer (some ⟨g, off, none⟩)) rfl (by kernel_rfl) (by kernel_rfl) (by kernel_rfl) (fun _ _ _ h => h) (Or.inl ⟨by rfl, fun wx hx => by simp [go_sem]⟩) KX0 ?_
  refine wpAnyH_take (i := 5) (v := .string x0) rfl (by kernel_rfl) (by kernel_rfl) (by kernel_rfl) (fun _ _ _ h => h) (Or.inl ⟨by rfl, fun wx hx => by simp [go_sem, hx]⟩) KX0 ?_
  refine wpAnyH_take (i := 7) (v := .pointer (some ⟨w.heap.size, 2, none⟩)) rfl (by kernel_rfl) (by kernel_rfl) (by kernel_rfl) (fun _ _ _ h => h) (Or.inl ⟨by rfl, fun wx hx => by simp [go_sem]⟩) KX0 ?_
  refine wpAnyH_take (i := 8) (v := .int .i64 z) rfl (by kernel_rfl) (by kernel_rfl) (by kernel_rfl) (fun _ _ _ h => h) (Or.inl ⟨by rfl, fun wx hx => by simp [go_sem, hx]⟩) KX0 ?_
  refine wpAnyH_all (rs := [6]) (by kernel_rfl) (by simp) ?_
  intro i hi
  obtain rfl : i = 6 := by simpa using hi
  clear hi
  simp [wpOp, Oper.wp, Oper.upon, go_sem]
  refine Or.inl (C63.out.mono ?_)
  rintro y w2 ⟨rfl, hb2⟩
  have B2 := hide (below_of_drew hb2)
  have K2 := KB.out w2 (Stirred.of_below B2.out [rm])
  clear hb2
  refine ⟨K2, ?_⟩
  refine wpAnyH_all (rs := [9]) (by kernel_rfl) (by simp) ?_
  intro i hi
  obtain rfl : i = 9 := by simpa using hi
  clear hi
  simp [wpOp, Oper.wp, Oper.upon, go_sem]
  refine Or.inl ((C62.out _).mono ?_)
  rintro y w3 ⟨rfl, hw⟩
  obtain rfl := hw.symm
  have M59 := hide (must59_bad 1 ⟨#[]⟩ w2 (VB.out w2 (Stirred.of_below B2.out [rm])).e)
  refine ⟨K2, ?_⟩
  refine wpAnyH_take (i := 10) (v := .string ⟨#[]⟩) rfl (by kernel_rfl) (by kernel_rfl) (by kernel_rfl) (fun _ _ _ h => h) (Or.inl ⟨by rfl, fun wx hx => by simp [go_sem]⟩) K2 ?_
  refine wpAnyH_take (i := 11) (v := .iface 25 (.int .i64 1)) rfl (by kernel_rfl) (by kernel_rfl) (by kernel_rfl) (fun _ _ _ h => h) (Or.inl ⟨by rfl, fun wx hx => by simp [go_sem]⟩) K2 ?_
  refine wpAnyH_all (rs := [12]) (by kernel_rfl) (by simp) ?_
  intro i hi
  obtain rfl : i = 12 := by simpa using hi
  clear hi
  simp [wpOp, Oper.wp, Oper.upon, go_sem]
  refine Or.inl (M59.out.mono ?_)
  rintro y w4 ⟨rfl, hb4⟩
  dsimp only [thrown]
  exact ⟨rfl, FIN.out w4 (B0.out.trans ((B2.out.trans (hb4.mono B2.out.size)).mono B0.out.size))⟩
set_option maxRecDepth 100000 in
set_option maxHeartbeats 4000000 in
theorem block_order_ok (db : Nat) (s : DeskS) (w : World) (x : ByteArray) (v : Value) (xs : List ByteArray) (z : Int) (hD : Desk db s w) (hV : Vars w) (hP : LineW w v xs) (hsz : ((x :: xs).map fun y => y.size + 1).sum ≤ 30001) (har : ∀ n, arOf 2 = some n → xs.length = n) (k : Nat) (hk : z = (k : Int)) (hk2 : k < 4294967296) :
    Calls Tryz.prog 25 #[.pointer (some ⟨db, 0, none⟩), .agg #[.string x, v, .int .i64 z]] w fun e w' => OutD db s 25 x xs z w e w' := by
  obtain ⟨κ, B, ob, sb, fb, vb, mt, mv, vf, rm, ρ, c3, c4, c5, c6, h⟩ := hD
  obtain ⟨hP1, p, cp, rfl, hcp⟩ := hP
  have hx := (size_words hsz).1
  have hlen : xs.length = 2 := har 2 rfl
  obtain ⟨g, off, rfl, hg, hw0⟩ := firstW hP1 (by omega)
  have hxz : (at_ xs 0).size ≤ 30000 := at_size (size_words hsz).2
  obtain ⟨x0, hx0⟩ : ∃ x0, at_ xs 0 = x0 := ⟨_, rfl⟩
  rw [hx0] at hw0 hxz
  have HX0 := hide hx0
  clear hx0
  rw [hlen]
  have X0 := hide (HasR.new w 65 #[.string x, .slice (some ⟨g, off, none⟩) 2 cp, .int .i64 z])
  have B0 := hide ((Below.refl w.heap.size w).alloc (Nat.le_refl _) (.cells #[.string x, .slice (some ⟨g, off, none⟩) 2 cp, .int .i64 z] 65))
  obtain ⟨W, hW⟩ : ∃ W, w.alloc (.cells #[.string x, .slice (some ⟨g, off, none⟩) 2 cp, .int .i64 z] 65) = W := ⟨_, rfl⟩
  rw [hW] at X0 B0
  have HW := hide hW
  have HD := hide (h.still B0.out)
  have h11 := hV.n
  have _hk11 := lowK_le
  have HV := hide (hV.low (B0.out.mono h11) B0.out.size)
  have hlS : s.h.ok.length ≤ 100 := h.good.len
  have nX : Hid (w.heap.size ∉ [rm]) := hide (h.rm_old (Nat.le_refl _))
  have nG : Hid (g ∉ [rm]) := hide (h.rm_cell hw0)
  have nD : Hid (db ∉ [rm]) := hide (h.rm_ne (by rw [h.kD]; simp))
  have gW : W.cell? ⟨g, off, none⟩ = some (.string x0) := (World.cell?_of_block (B0.out.block g hg)).trans hw0
  have lW : g < W.heap.size := Nat.lt_of_lt_of_le hg B0.out.size
  have KB : Hid (∀ wx, Stirred [rm] W wx → wx.cell? ⟨w.heap.size, 0, none⟩ = some (.string x) ∧ wx.cell? ⟨w.heap.size, 1, none⟩ = some (.slice (some ⟨g, off, none⟩) 2 cp) ∧ wx.cell? ⟨w.heap.size, 2, none⟩ = some (.int .i64 z) ∧ wx.cell? ⟨g, off, none⟩ = some (.string x0)) := hide fun wx t =>
    have X := X0.out.turned t nX.out
    ⟨X.cell 0, X.cell 1, X.cell 2, (t.cell (p := ⟨g, off, none⟩) lW nG.out).trans gW⟩
  obtain ⟨k0, k1, k2, k3⟩ := KB.out W (Stirred.refl _ _)
  have KD : Hid (∀ wx, Stirred [rm] W wx → wx.cell? ⟨db, 0, none⟩ = some (.map (some ob)) ∧ wx.cell? ⟨db, 1, none⟩ = some (.pointer (some ⟨sb, 0, none⟩)) ∧ wx.cell? ⟨db, 2, none⟩ = some (.map (some rm))) := hide fun wx t =>
    have X := HD.out.desk.turned t nD.out
    ⟨X.cell 0, X.cell 1, X.cell 2⟩
  obtain ⟨j0, j1, j2⟩ := KD.out W (Stirred.refl _ _)
  have HH := hide h
  have VB : Hid (∀ wx, Stirred [rm] W wx → Vars wx) := hide fun wx t => HV.out.low (t.below HV.out.n (fun j hj => by
    have e : j = rm := by simpa using hj
    rw [e]
    exact HD.out.low DeskV.rmOwned)) t.size
  clear h hW hP1 hsz har hw0
  have hR : blockR s x xs z = toldR x [hexL (blockL (sha x0.data.toList) (BitVec.ofNat 32 k) nonceB.data.toList)] s := by
    unfold blockR
    rw [if_neg (by omega), HX0.out, hk]
    rfl
  have HR := hide (fun _ : Unit => hR)
  clear hR
  have C63 := hide (sum_str x0 (by omega) W.drew (VB.out W.drew (Stirred.of_below (Below.refl _ W).drew [rm])).k)
  have C62 := hide (fun wx => blk_ok (sha x0.data.toList) k wx (sha_len _) hk2)
  have hbl := blockL_len (sha x0.data.toList) (BitVec.ofNat 32 k) nonceB.data.toList
  have C57 := hide (fun wx => hex_text (blockL (sha x0.data.toList) (BitVec.ofNat 32 k) nonceB.data.toList) wx (by omega))
  have hhl := hexL_len (blockL (sha x0.data.toList) (BitVec.ofNat 32 k) nonceB.data.toList)
  generalize textL (sha x0.data.toList) = kt at C63 C62
  generalize blockL (sha x0.data.toList) (BitVec.ofNat 32 k) nonceB.data.toList = bl at C62 C57 hbl hhl HR
  generalize hexL bl = hx4 at C57 hhl HR
  rw [← hk] at C62
  have M59 := hide must59_ok
  clear hk hk2
  go_enter Tryz.func25, Tryz.ntmps25
  go_upto_region 1 with fail
  rw [HW.out]
  go_region_held3 (fun wx => wx.cell? ⟨w.heap.size, 0, none⟩ = some (.string x) ∧ wx.cell? ⟨w.heap.size, 1, none⟩ = some (.slice (some ⟨g, off, none⟩) 2 cp) ∧ wx.cell? ⟨w.heap.size, 2, none⟩ = some (.int .i64 z) ∧ wx.cell? ⟨g, off, none⟩ = some (.string x0)) (first | (with_reducible exact K2.out) | (with_reducible exact K3.out) | (with_reducible exact K4.out) | (with_reducible exact K5.out) | (with_reducible exact K9.out) | go_keep)
    (first
    | (go_at_call 63; (with_reducible refine C63.out.mono ?_); rintro y w2 ⟨rfl, hb2⟩; have B2 := hide (below_of_drew hb2); have K2 := hide (KB.out w2 (Stirred.of_below B2.out [rm])); clear hb2)
    | (go_at_call 62; (with_reducible refine (C62.out _).mono ?_); rintro y w3 ⟨rfl, hb3⟩; have B3 := hide (B2.out.trans (hb3.mono B2.out.size)); have K3 := hide (KB.out w3 (Stirred.of_below B3.out [rm])); clear hb3)
    | (go_at_call 59; (with_reducible refine (M59.out _ _).mono ?_); rintro y w4 ⟨rfl, hw⟩; obtain rfl := hw.symm)
    | (go_at_call 57; (with_reducible refine (C57.out _).mono ?_); rintro y w4 ⟨rfl, hb4⟩; have B4 := hide (B3.out.trans (hb4.mono B3.out.size)); have K4 := hide (KB.out w4 (Stirred.of_below B4.out [rm])); have K9 := hide (KB.out (w4.alloc (.cells #[.string (textL hx4)] 9)) (Stirred.of_below (B4.out.alloc B4.out.size _) [rm])); have C12 := hide (tell_one x hx4 w4 hx (by omega)); clear hb4)
    | (go_at_call 12; (with_reducible refine C12.out.mono ?_); rintro y w5 ⟨rfl, hb5⟩; have B5 := hide (B4.out.trans (hb5.mono B4.out.size)); have K5 := hide (KB.out w5 (Stirred.of_below B5.out [rm])); clear hb5))
  go_wp2
  go_ret
  have bT : Below w.heap.size w w5 := B0.out.trans (B5.out.mono B0.out.size)
  refine ⟨toldR x [hx4] s, .inr (.inr (.inr (.inr (.inr (.inr (.inr (.inr (.inr (.inr (.inr (.inl ⟨rfl, (HR.out ()).symm⟩))))))))))), .inr ⟨_, _, rfl, rfl, told_one hx (by omega), HH.out.same bT⟩, Quiet.of_below bT h11⟩
theorem cmd_block : CmdOk 25 (arOf 2) := by
  intro db s w x v xs z hD hc hV hP hsz har hz
  by_cases hbad : z < 0 ∨ 4294967295 < z
  · exact block_order_bad db s w x v xs z hD hV hP hsz har hz hbad
  · exact block_order_ok db s w x v xs z hD hV hP hsz har z.toNat (by omega) (by omega)
end Go.Proofs.YtdjpghgnjcmdnaaGreatDoor

/- A mark of a longer word; a desk's source made anew of any word of a line's. -/
namespace Go.Proofs.YtdjpghgnjcmdnaaGreatDoor
open Go.RowKit Go.Shelf Go.Sort Go.Maps
attribute [local go_sem ↓] Go.wp_at_zero Go.wp_at_succ
set_option linter.unusedSectionVars false
variable [Inhabited LowT]
theorem markTo_lenW (kind : UInt8) (ps : List ByteArray) (hp : ∀ p ∈ ps, p.size ≤ 30000) (k : Nat) : (markTo kind ps k).length ≤ 1 + 30008 * k := by
  have e : ∀ l : List ByteArray, (∀ p ∈ l, p.size ≤ 30000) → (l.flatMap fun p => num8 p.size ++ p.data.toList).length ≤ 30008 * l.length := by
    intro l
    induction l with
    | nil => intro _; simp
    | cons x r ih =>
      intro h
      have h1 := ih (fun p hp => h p (by simp [hp]))
      have h2 := h x (by simp)
      have h3 : x.data.toList.length = x.size := rfl
      simp only [List.flatMap_cons, List.length_append, num8_len, List.length_cons, h3]
      omega
  have h1 := e (ps.take k) (fun p hp' => hp p (List.mem_of_mem_take hp'))
  have h2 : (ps.take k).length ≤ k := List.length_take_le _ _
  unfold markTo
  simp only [List.length_cons]
  omega
set_option maxRecDepth 100000 in
set_option maxHeartbeats 2000000 in
theorem mark_anyW (kind : UInt8) (v : Value) (ps : List ByteArray) (w : World) (hP : Parts w v ps) (hn : ps.length ≤ 10) (hp : ∀ p ∈ ps, p.size ≤ 30000) (hK : TabK w) :
    Calls Tryz.prog 30 #[.int .u8 (kind.toNat : Int), v] w fun e w' => e = .returned (.string ((⟨(sha (markTo kind ps ps.length)).toArray⟩ : ByteArray).extract 0 16)) ∧ Below w.heap.size w w' := by
  obtain ⟨i5, hE⟩ := elemB
  have h0 := hK.lt
  obtain ⟨ao, cap0, rfl, hP⟩ := hP
  go_enter Tryz.func30, Tryz.ntmps30
  go_wp2
  go_loopw [5, 12] (fun t i wr => ∃ k g m cap : Nat, k ≤ ps.length ∧ i = .int .i64 k ∧ t = .slice (some ⟨g, 0, none⟩) m cap ∧ m ≤ 1 + 30008 * k ∧ BR wr w.heap.size 5 g m cap (bytesV (markTo kind ps k)) ∧ Below w.heap.size w wr)
    (fun _ i _ => ps.length - (intOf i).toNat)
  case atStart => exact ⟨0, w.heap.size, 1, 1, by omega, rfl, rfl, by omega, ⟨rfl, Nat.le_refl _, by omega, _, _, heap_alloc_new w _, rfl, rfl, .inl (Nat.le_refl _)⟩, (Below.refl _ _).alloc (Nat.le_refl _) _⟩
  case round =>
    obtain ⟨k, g, m, cap, hk, rfl, rfl, hm, hr, hb⟩ := hrel
    have hbs := hb.size
    by_cases hlt : k < ps.length
    · rcases hP with hP | ⟨b, off, rfl, hbl, hc⟩
      · rw [hP] at hlt; simp at hlt
      · have hck : wr.cell? ⟨b, off + k, none⟩ = some (.string (ps.getD k ByteArray.empty)) := by
          rw [hb.cell (p := ⟨b, off + k, none⟩) hbl]; exact hc k hlt
        have hst := hide (markTo_step kind ps k hlt)
        have hsz : (ps.getD k ByteArray.empty).size ≤ 30000 := by
          have : ps.getD k ByteArray.empty ∈ ps := by simp [hlt]
          exact hp _ this
        have hln := hide (markTo_lenW kind ps hp (k + 1))
        generalize ps.getD k ByteArray.empty = p at hck hst hsz
        clear hc hp
        go_wp2_with (first
          | (go_at_call 68; refine (appendNum_any w.heap.size _ m (markTo kind ps k) p.size _ (by omega) (BRn.of hr) (by omega) hbs).mono ?_; rintro e w1 ⟨g1, cap1, rfl, hr1, hb1⟩)
          | (at_builtin; refine append_str hE w.heap.size g1 (m + 8) cap1 (markTo kind ps k ++ num8 p.size) p rfl rfl hr1 (by omega) (by have := hb1.size; omega) ?_; intro g2 cap2 w2 hr2 hb2; rw [hst.out] at hr2))
        go_roundw
        case rel => exact ⟨k + 1, g2, m + 8 + p.size, cap2, by omega, by go_num, rfl, by have h1 := hr2.len; rw [bytesV_len] at h1; have h2 := hln.out; omega, hr2, hb.trans (hb1.trans hb2)⟩
        case measure => simp [intOf]; omega
    · obtain rfl : k = ps.length := by omega
      have hK' := hK.below hb h0
      have hl := markTo_lenW kind ps hp ps.length
      generalize hT : markTo kind ps ps.length = T at hr hl
      have HT := hide hT
      clear hT hP hp
      have hS := hide (sum_any ⟨T.toArray⟩ (by show T.length ≤ 800000; omega) wr hK')
      have hlen : (sha T).length = 32 := by
        unfold sha stBytes
        rfl
      generalize hSH : sha T = S at hS hlen
      have HSH := hide hSH
      clear hSH
      have hSs : (⟨S.toArray⟩ : ByteArray).size = 32 := hlen
      go_wp2_with (first
        | ((with_reducible refine conv_out g m cap T ?_ hr ?_); rfl)
        | (go_at_call 63; refine (hS.out).mono ?_; rintro e w1 ⟨rfl, hb1⟩))
      go_ret
      exact ⟨ret_val (by show Value.string ((⟨S.toArray⟩ : ByteArray).extract 0 16) = _; rw [HT.out, HSH.out]), hb.trans (hb1.mono hbs)⟩
theorem mark_oneW (word : ByteArray) (w : World) (hp : word.size ≤ 30000) (hK : TabK w) :
    Calls Tryz.prog 30 #[.int .u8 100, .slice (some ⟨w.heap.size, 0, none⟩) 1 1] (w.alloc (.cells #[.string word] 9)) fun e w' => e = .returned (.string (markB 100 [word])) ∧ Below w.heap.size w w' :=
  have b1 : Below w.heap.size w (w.alloc (.cells #[.string word] 9)) := (Below.refl _ w).alloc (Nat.le_refl _) _
  (mark_anyW 100 _ [word] _ (parts_one w.heap.size word (HasR.new w 9 _)) (by simp) (by simp [hp]) (hK.below b1 hK.lt)).mono fun _ _ ⟨he, hb⟩ => ⟨he, b1.trans (hb.mono b1.size)⟩
set_option maxRecDepth 100000 in
set_option maxHeartbeats 2000000 in
theorem anew_anyW (db : Nat) (word : ByteArray) (hw : word.size ≤ 30000) (v0 a1 a2 a3 a4 a5 a6 : Value) (w : World) (hK : TabK w) (hd : HasR w db 34 #[v0, a1, a2, a3, a4, a5, a6]) :
    Calls Tryz.prog 7 #[.pointer (some ⟨db, 0, none⟩), .string word] w fun e w' => e = .returned (.tuple #[]) ∧ ∃ B mb : Nat, w.heap.size ≤ B ∧ B + 3 ≤ mb ∧ HasR w' db 34 #[v0, .pointer (some ⟨B + 2, 0, none⟩), .map (some mb), .int .i64 0, .string ⟨#[]⟩, .slice none 0 0, .int .i64 0] ∧ Src B w' (B + 2) (B + 1) B none none (.slice none 0 0) 0 0 (markB 100 [word]) kept0 tab0 [] ∧ w'.heap[mb]? = some (.map #[] 0) ∧ Stirred [db] w w' := by
  have MK := hide (mark_oneW word w hw hK)
  have NW := hide (fun wx => srcNew_ok (markB 100 [word]) wx (markB_size 100 [word]))
  have M28 := hide must28
  have hmm := @run_makeMap Tryz.prog
  have HD := hide hd
  clear hK hd hw
  go_enter Tryz.func7, Tryz.ntmps7
  go_upto_region 1 with (first
    | (go_at_call 30; (with_reducible refine MK.out.mono ?_); rintro _ w1 ⟨rfl, hb⟩; have B1 := hide hb; clear hb)
    | (go_at_call 29; (with_reducible refine (NW.out _).mono ?_); rintro _ w2 ⟨rfl, hs, hb⟩; have S2 := hide hs; have B12 := hide (B1.out.trans (hb.mono B1.out.size)); have X2 := hide (HD.out.below B12.out HD.out.lt); clear hb hs; have z1 : w2.cell? ⟨db, 1, none⟩ = some a1 := X2.out.cell 1; have f1 := X2.out.free 1)
    | (go_at_call 28; (with_reducible refine (M28.out _ _).mono ?_); rintro _ w3 ⟨rfl, rfl⟩))
  have X3 := hide (X2.out.set 1 (.pointer (some ⟨w1.heap.size + 2, 0, none⟩)))
  obtain ⟨W1, hW1⟩ : ∃ W1, w3.setCell ⟨db, 1, none⟩ (.pointer (some ⟨w1.heap.size + 2, 0, none⟩)) = W1 := ⟨_, rfl⟩
  rw [hW1] at X3 ⊢
  have HW1 := hide hW1
  clear hW1 z1 f1
  have Y3 := hide (X3.out.alloc (.map #[] 0))
  have z2 : (W1.alloc (.map #[] 0)).cell? ⟨db, 2, none⟩ = some a2 := Y3.out.cell 2
  have f2 := Y3.out.free 2
  go_upto_region 2 with fail
  have X4 := hide (Y3.out.set 2 (.map (some W1.heap.size)))
  obtain ⟨W2, hW2⟩ : ∃ W2, (W1.alloc (.map #[] 0)).setCell ⟨db, 2, none⟩ (.map (some W1.heap.size)) = W2 := ⟨_, rfl⟩
  rw [hW2] at X4 ⊢
  have HW2 := hide hW2
  clear hW2 z2 f2
  have z3 : W2.cell? ⟨db, 3, none⟩ = some a3 := X4.out.cell 3
  have z4 : W2.cell? ⟨db, 4, none⟩ = some a4 := X4.out.cell 4
  have z5 : W2.cell? ⟨db, 5, none⟩ = some a5 := X4.out.cell 5
  have z6 : W2.cell? ⟨db, 6, none⟩ = some a6 := X4.out.cell 6
  have f3 := X4.out.free 3
  have f4 := X4.out.free 4
  have f5 := X4.out.free 5
  have f6 := X4.out.free 6
  go_wp2
  have hdl := HD.out.lt
  have h1 := B1.out.size
  have X5 := (((X4.out.set 3 (.int .i64 0)).set 4 (.string ⟨#[]⟩)).set 5 (.slice none 0 0)).set 6 (.int .i64 0)
  have e3 : W1.heap.size = w3.heap.size := by rw [← HW1.out]; simp
  have hM : (W1.alloc (.map #[] 0)).heap[W1.heap.size]? = some (.map #[] 0) := World.alloc_heap_new W1 _
  have s1 : Stirred [db] w3 W1 := by rw [← HW1.out]; exact Stirred.setCell w3 ⟨db, 1, none⟩ _
  have s2 : Stirred [db] W1 W2 := by
    rw [← HW2.out]
    exact (Stirred.of_below ((Below.refl _ W1).alloc (Nat.le_refl _) _) [db]).andThen (Stirred.setCell _ ⟨db, 2, none⟩ _) (fun j hj => .inl hj)
  have s3 : ∀ (W : World) (k : Nat) (v : Value), Stirred [db] W (W.setCell ⟨db, k, none⟩ v) := fun W k v => Stirred.setCell W ⟨db, k, none⟩ v
  have s4 := ((((s1.andThen s2 (fun j hj => .inl hj)).andThen (s3 _ 3 (.int .i64 0)) (fun j hj => .inl hj)).andThen (s3 _ 4 (.string ⟨#[]⟩)) (fun j hj => .inl hj)).andThen (s3 _ 5 (.slice none 0 0)) (fun j hj => .inl hj)).andThen (s3 _ 6 (.int .i64 0)) (fun j hj => .inl hj)
  have hlS := S2.out.tab.row.lt
  have hMS : W1.heap.size < (W1.alloc (.map #[] 0)).heap.size := by simp
  have hm0 : ∀ (W : World) (k : Nat) (v : Value) (o : Obj), W.heap[W1.heap.size]? = some o → (W.setCell ⟨db, k, none⟩ v).heap[W1.heap.size]? = some o := fun W k v o ho => (Below.heap_setCell _ _ _ _ (fun e => by have e' : W1.heap.size = db := e; have := B12.out.size; omega)).trans ho
  have hm2 : W2.heap[W1.heap.size]? = some (.map #[] 0) := by
    rw [← HW2.out]
    exact hm0 _ _ _ _ hM
  have hS := S2.out.turned s4 (fun j hj => by
    unfold ownS at hj
    simp [Value.ownBlock] at hj
    simp
    omega)
  go_end0
  exact ⟨rfl, w1.heap.size, W1.heap.size, h1, by omega, by simpa using X5, hS, hm0 _ _ _ _ (hm0 _ _ _ _ (hm0 _ _ _ _ (hm0 _ _ _ _ hm2))), (Stirred.of_below B12.out [db]).andThen s4 (fun j hj => .inl hj)⟩
end Go.Proofs.YtdjpghgnjcmdnaaGreatDoor

/- The order 'new'; how a desk begins. -/
namespace Go.Proofs.YtdjpghgnjcmdnaaGreatDoor
open Go.RowKit Go.Shelf Go.Sort Go.Maps
set_option linter.unusedSectionVars false
variable [Inhabited LowT]
variable [Inhabited Cl] [Inhabited Ev]
attribute [local go_sem ↓] Go.wp_at_zero Go.wp_at_succ
theorem told_nil (x : ByteArray) : toldL x [] = x.data.toList := by simp [toldL, Lib.join]
set_option maxRecDepth 100000 in
set_option maxHeartbeats 4000000 in
theorem cmd_new : CmdOk 14 (arOf 1) := by
  intro db s w x v xs z hD hc hV hP hsz har hz
  obtain ⟨κ, B, ob, sb, fb, vb, mt, mv, vf, rm, ρ, c3, c4, c5, c6, h⟩ := hD
  obtain ⟨hP1, p, cp, rfl, hcp⟩ := hP
  have hx := (size_words hsz).1
  have hlen : xs.length = 1 := har 1 rfl
  obtain ⟨g, off, rfl, hg, hw0⟩ := firstW hP1 (by omega)
  have hxz : (at_ xs 0).size ≤ 30000 := at_size (size_words hsz).2
  obtain ⟨x0, hx0⟩ : ∃ x0, at_ xs 0 = x0 := ⟨_, rfl⟩
  rw [hx0] at hw0 hxz
  have HX0 := hide hx0
  clear hx0
  rw [hlen]
  have X0 := hide (HasR.new w 65 #[.string x, .slice (some ⟨g, off, none⟩) 1 cp, .int .i64 z])
  have B0 := hide ((Below.refl w.heap.size w).alloc (Nat.le_refl _) (.cells #[.string x, .slice (some ⟨g, off, none⟩) 1 cp, .int .i64 z] 65))
  obtain ⟨W, hW⟩ : ∃ W, w.alloc (.cells #[.string x, .slice (some ⟨g, off, none⟩) 1 cp, .int .i64 z] 65) = W := ⟨_, rfl⟩
  rw [hW] at X0 B0
  have HW := hide hW
  have HD := hide (h.still B0.out)
  have h11 := hV.n
  have _hk11 := lowK_le
  have HV := hide (hV.low (B0.out.mono h11) B0.out.size)
  have hlS : s.h.ok.length ≤ 100 := h.good.len
  have nX : Hid (w.heap.size ∉ [rm]) := hide (h.rm_old (Nat.le_refl _))
  have nG : Hid (g ∉ [rm]) := hide (h.rm_cell hw0)
  have nD : Hid (db ∉ [rm]) := hide (h.rm_ne (by rw [h.kD]; simp))
  have gW : W.cell? ⟨g, off, none⟩ = some (.string x0) := (World.cell?_of_block (B0.out.block g hg)).trans hw0
  have lW : g < W.heap.size := Nat.lt_of_lt_of_le hg B0.out.size
  have KB : Hid (∀ wx, Stirred [rm] W wx → wx.cell? ⟨w.heap.size, 0, none⟩ = some (.string x) ∧ wx.cell? ⟨w.heap.size, 1, none⟩ = some (.slice (some ⟨g, off, none⟩) 1 cp) ∧ wx.cell? ⟨w.heap.size, 2, none⟩ = some (.int .i64 z) ∧ wx.cell? ⟨g, off, none⟩ = some (.string x0)) := hide fun wx t =>
    have X := X0.out.turned t nX.out
    ⟨X.cell 0, X.cell 1, X.cell 2, (t.cell (p := ⟨g, off, none⟩) lW nG.out).trans gW⟩
  obtain ⟨k0, k1, k2, k3⟩ := KB.out W (Stirred.refl _ _)
  have KD : Hid (∀ wx, Stirred [rm] W wx → wx.cell? ⟨db, 0, none⟩ = some (.map (some ob)) ∧ wx.cell? ⟨db, 1, none⟩ = some (.pointer (some ⟨sb, 0, none⟩)) ∧ wx.cell? ⟨db, 2, none⟩ = some (.map (some rm))) := hide fun wx t =>
    have X := HD.out.desk.turned t nD.out
    ⟨X.cell 0, X.cell 1, X.cell 2⟩
  obtain ⟨j0, j1, j2⟩ := KD.out W (Stirred.refl _ _)
  have HH := hide h
  have VB : Hid (∀ wx, Stirred [rm] W wx → Vars wx) := hide fun wx t => HV.out.low (t.below HV.out.n (fun j hj => by
    have e : j = rm := by simpa using hj
    rw [e]
    exact HD.out.low DeskV.rmOwned)) t.size
  clear h hW hP1 hsz har hw0
  have C7 := hide (anew_anyW db x0 hxz _ _ _ _ _ _ _ W HV.out.k HD.out.desk)
  have nX0 : Hid (w.heap.size ∉ [db]) := hide (fun hm => by
    have e : w.heap.size = db := by simpa using hm
    have := HH.out.desk.lt
    omega)
  go_enter Tryz.func14, Tryz.ntmps14
  go_upto_region 1 with fail
  rw [HW.out]
  go_wp2_with (go_at_call 7; (with_reducible refine C7.out.mono ?_); rintro y w2 ⟨rfl, B', mb, hB', hmb, hd', hs', hm', t'⟩; have X2 := X0.out.turned t' nX0.out; have a0 : w2.cell? ⟨w.heap.size, 0, none⟩ = some (.string x) := X2.cell 0)
  go_ret
  have hO : w2.ownsMap Tryz.prog 9 ordElem ob 16 (tableD db) := ownsMap_turned HD.out.ord t' (fun hm => by
    have e : ob = db := by simpa using hm
    have h1 := HD.out.kO
    have h2 := HD.out.kD
    rw [e, h2] at h1
    cases h1)
  have l1 := HD.out.ord.lt
  have l2 := HD.out.desk.lt
  have hne : ob ≠ db := fun e => by
    have h1 := HD.out.kO
    have h2 := HD.out.kD
    rw [e, h2] at h1
    cases h1
  have hDD := desk_anew (markB_size 100 [x0]) hd' hO hs' hm' (Nat.le_trans HV.out.n hB') HD.out.lowD HD.out.lowO hmb (by omega) (by omega) hne
  have q : Quiet w w2 := (Quiet.of_below B0.out h11).trans (HD.out.quiet t' (fun j hj => .inl (.inl (by simpa using hj))) HV.out.n)
  refine ⟨toldR x [] (desk0 (markB 100 [at_ xs 0])), .inl ⟨rfl, rfl⟩, .inr ⟨toldL x [], desk0 (markB 100 [x0]), ?_, ?_, ?_, hDD⟩, q⟩
  · rw [HX0.out]
    rfl
  · rw [told_nil, textL_of]
    rfl
  · rw [told_nil]
    have : x.data.toList.length = x.size := by simp
    omega
/-- How a desk begins. -/
theorem desk_starts : Starts Desk (desk0 (markB 100 [⟨#[]⟩])) := by
  refine ⟨fun w db hV hbig hd => ?_⟩
  refine (table_any db w).mono ?_
  rintro e w1 ⟨rfl, ho, hb⟩
  refine ⟨w.heap.size, rfl, hb, ?_⟩
  have h11 := hV.n
  have _hk11 := lowK_le
  have hd1 := hd.below hb hd.lt
  have hd2 := hd1.set 0 (.map (some w.heap.size))
  have hl := hd.lt
  have hl1 := ho.lt
  have t1 : Stirred [db] w1 (w1.setCell ⟨db, 0, none⟩ (.map (some w.heap.size))) := Stirred.setCell w1 ⟨db, 0, none⟩ _
  have hV1 : Vars (w1.setCell ⟨db, 0, none⟩ (.map (some w.heap.size))) := (hV.low (hb.mono h11) hb.size).low (t1.below (Nat.le_trans h11 hb.size) (fun j hj => by
    have e : j = db := by simpa using hj
    omega)) t1.size
  have ho1 : (w1.setCell ⟨db, 0, none⟩ (.map (some w.heap.size))).ownsMap Tryz.prog 9 ordElem w.heap.size 16 (tableD db) := ownsMap_turned ho t1 (fun hm => by
    have e : w.heap.size = db := by simpa using hm
    omega)
  refine (anew_anyW db ⟨#[]⟩ (by decide) _ _ _ _ _ _ _ _ hV1.k hd2).mono ?_
  rintro e w2 ⟨rfl, B', mb, hB', hmb, hd', hs', hm', t'⟩
  have hz := t1.size
  have hO : w2.ownsMap Tryz.prog 9 ordElem w.heap.size 16 (tableD db) := ownsMap_turned ho1 t' (fun hm => by
    have e : w.heap.size = db := by simpa using hm
    omega)
  have hDD := desk_anew (markB_size 100 [⟨#[]⟩]) hd' hO hs' hm' (by omega) hbig (by omega) hmb (by omega) (by omega) (by omega)
  refine ⟨rfl, hDD, (Quiet.of_below hb h11).trans ?_⟩
  have tt : Stirred [db] w1 w2 := t1.andThen t' (fun j hj => .inl hj)
  refine ⟨tt.below (Nat.le_trans h11 hb.size) (fun j hj => by
    have e : j = db := by simpa using hj
    omega), tt.size, fun k o hk hq => ?_⟩
  refine (tt.block k (block_old hk) (fun hm => ?_)).trans hk
  have e : k = db := by simpa using hm
  rw [e] at hk
  exact hd1.loud (by decide) hk hq
end Go.Proofs.YtdjpghgnjcmdnaaGreatDoor
