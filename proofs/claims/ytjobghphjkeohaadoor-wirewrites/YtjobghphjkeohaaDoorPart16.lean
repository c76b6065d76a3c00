/- Texts of this proof, one behind the other. -/
import Derived.Test.YtjobghphjkeohaaDoorPart15
/- A byte as a text: the document's own way. -/
namespace Go.Proofs.YtjobghphjkeohaaDoor
open Go.RowKit
attribute [local go_sem ↓] Go.wp_at_zero Go.wp_at_succ
set_option maxRecDepth 100000 in
set_option maxHeartbeats 1000000 in
theorem one_any (n : Nat) (h : n < 256) (w : World) : Calls Tryd.prog 19 #[.int .i64 (n : Int)] w fun e w' => e = .returned (.string (tx [u8 n])) ∧ Below w.heap.size w w' := by
  have hw : IntKind.u8.wrap (n : Int) = (n : Int) := by rw [IntKind.wrap_u8]; omega
  have hm : (n : Int) % 256 = (n : Int) := by omega
  have hbr : BR (w.alloc (.cells #[.int .u8 (n : Int)] 5)) w.heap.size 5 w.heap.size 1 1 (bytesV [u8 n]) := ⟨rfl, Nat.le_refl _, Nat.le_refl _, #[.int .u8 (n : Int)], (0, 0), HasR.new w 5 #[.int .u8 (n : Int)], rfl, by simp [bytesV, u8_nat h], .inl (Nat.le_refl _)⟩
  have bel : Below w.heap.size w (w.alloc (.cells #[.int .u8 (n : Int)] 5)) := (Below.refl _ w).alloc (Nat.le_refl _) _
  go_enter Tryd.func19, Tryd.ntmps19
  go_wp2_with ((with_reducible refine conv_out w.heap.size 1 1 [u8 n] ?_ hbr ?_); rfl)
  go_ret
  exact ⟨rfl, bel⟩
end Go.Proofs.YtjobghphjkeohaaDoor

/- Write: the document's own way. -/
namespace Go.Proofs.YtjobghphjkeohaaDoor
open Go.RowKit
attribute [local go_sem ↓] Go.wp_at_zero Go.wp_at_succ
/-- A text that is no great one. -/
def Sm (X : ByteArray) : Prop := (X.size : Int) ≤ 8388608
theorem run_add_sm (w : World) (X Y : ByteArray) (h : Sm X) (k : Sm Y) : (Op.stringOp .add X Y).run Tryd.prog w = .ok (.string (X ++ Y)) w := run_string_add w X Y h k
attribute [local go_sem ↓] run_add_sm
theorem wire_text (r : Rec) : (((((((markR r ++ tx [u8 r.q]) ++ tx [u8 r.s.size]) ++ r.s) ++ tx [u8 r.g]) ++ r.p) ++ tx [u8 (r.d.size / 256)]) ++ tx [u8 (r.d.size % 256)]) ++ r.d = tx (wireL r) := by
  apply ByteArray.ext
  apply Array.toList_inj.1
  simp only [ByteArray.data_append, Array.toList_append]
  unfold wireL sizeL
  show _ = (markR r).data.toList ++ _
  simp only [tx, List.append_assoc, List.cons_append, List.nil_append]
set_option maxRecDepth 100000 in
set_option maxHeartbeats 1000000 in
theorem refWrite_bad (b : Nat) (q : Int) (s : ByteArray) (g : Int) (p d : ByteArray) (w : World) (hs : s.size ≤ 1000) (h : rightI q s g p d = false) :
    Calls Tryd.prog 6 #[.pointer (some ⟨b, 0, none⟩), .agg #[.int .i64 q, .string s, .int .i64 g, .string p, .string d]] w fun x w' => x = .returned (.tuple #[.string ⟨#[]⟩, .int .i64 1]) ∧ Below w.heap.size w w' := by
  have bel : Below w.heap.size w (w.alloc (.cells #[.int .i64 q, .string s, .int .i64 g, .string p, .string d] 23)) := (Below.refl _ w).alloc (Nat.le_refl _) _
  have R0 := fun wx => refRight_any q s g p d wx hs
  rw [h] at R0
  have R := hide R0
  have BL := hide bel
  clear bel R0
  go_enter Tryd.func6, Tryd.ntmps6
  go_wp2_with (go_at_call 10; (with_reducible refine (R.out _).mono ?_); rintro y w2 ⟨rfl, hb2⟩; have B2 := hide (BL.out.trans (hb2.mono BL.out.size)); clear hb2)
  go_ret2
  exact ⟨rfl, B2.out⟩
set_option maxRecDepth 100000 in
set_option maxHeartbeats 4000000 in
theorem refWrite_ok (b : Nat) (r : Rec) (h : RightR r) (w : World) (hR : RefR w b) :
    Calls Tryd.prog 6 #[.pointer (some ⟨b, 0, none⟩), .agg #[.int .i64 (r.q : Int), .string r.s, .int .i64 (r.g : Int), .string r.p, .string r.d]] w fun x w' => x = .returned (.tuple #[.string (tx (wireL r)), .int .i64 0]) ∧ Below w.heap.size w w' := by
  have hs10 := nameB_len h.s
  have fit : Fit r := ⟨by have := h.q2; omega, by have := h.g; omega, by omega, by have := h.p; omega, by have := h.d; omega⟩
  have bel : Below w.heap.size w (w.alloc (.cells #[.int .i64 (r.q : Int), .string r.s, .int .i64 (r.g : Int), .string r.p, .string r.d] 23)) := (Below.refl _ w).alloc (Nat.le_refl _) _
  have E0 := hide (HasR.new w 23 (recA r))
  have BL := hide bel
  have KK := hide (fun wx (hb : Below w.heap.size w wx) => hR.below hb hR.lt)
  have R0 := fun wx => refRight_any r.q r.s r.g r.p r.d wx (by omega)
  rw [show rightI r.q r.s r.g r.p r.d = true from rightRB_iff.2 h] at R0
  have R := hide R0
  have MK := hide (fun wx (hk : RefR wx b) => refMarkRec_any b r wx fit hk)
  have O1 := hide (fun wx => one_any r.q (by have := h.q2; omega) wx)
  have O2 := hide (fun wx => one_any r.s.size (by omega) wx)
  have O3 := hide (fun wx => one_any r.g (by have := h.g; omega) wx)
  have O40 := fun wx => one_any (r.d.size / 256) (by have := h.d; omega) wx
  have O50 := fun wx => one_any (r.d.size % 256) (by omega) wx
  rw [show ((r.d.size / 256 : Nat) : Int) = (r.d.size : Int) / 256 by omega] at O40
  rw [show ((r.d.size % 256 : Nat) : Int) = (r.d.size : Int) % 256 by omega] at O50
  have O4 := hide O40
  have O5 := hide O50
  have t4 : Int.tdiv (r.d.size : Int) 256 = (r.d.size : Int) / 256 := Int.tdiv_eq_ediv_of_nonneg (by omega)
  have t5 : Int.tmod (r.d.size : Int) 256 = (r.d.size : Int) % 256 := Int.tmod_eq_emod_of_nonneg (by omega)
  have v4 : IntKind.i64.wrap ((r.d.size : Int) / 256) = (r.d.size : Int) / 256 := by have := h.d; rw [IntKind.wrap_i64]; omega
  have HW := hide (wire_text r)
  have z0 : (markR r).size = 16 := markR_size r
  have z1 : ∀ n, (tx [u8 n]).size = 1 := fun n => rfl
  have y1 := z1 r.q
  have y2 := z1 r.s.size
  have y3 := z1 r.g
  have y4 := z1 (r.d.size / 256)
  have y5 := z1 (r.d.size % 256)
  have hp16 := h.p
  have hd416 := h.d
  clear z1 bel fit h hR R0 O40 O50
  generalize tx [u8 (r.d.size % 256)] = o5 at O5 y5 HW
  generalize tx [u8 (r.d.size / 256)] = o4 at O4 y4 HW
  generalize tx [u8 r.g] = o3 at O3 y3 HW
  generalize tx [u8 r.s.size] = o2 at O2 y2 HW
  generalize tx [u8 r.q] = o1 at O1 y1 HW
  generalize markR r = ma at MK z0 HW
  generalize tx (wireL r) = WT at HW ⊢
  have i0 : (ma.size : Int) ≤ 8388608 := by omega
  have j1 : (o1.size : Int) ≤ 8388608 := by omega
  have j2 : (o2.size : Int) ≤ 8388608 := by omega
  have j3 : (r.s.size : Int) ≤ 8388608 := by omega
  have j4 : (o3.size : Int) ≤ 8388608 := by omega
  have j5 : (r.p.size : Int) ≤ 8388608 := by omega
  have j6 : (o4.size : Int) ≤ 8388608 := by omega
  have j7 : (o5.size : Int) ≤ 8388608 := by omega
  have j8 : (r.d.size : Int) ≤ 8388608 := by omega
  have i1 : ((ma ++ o1).size : Int) ≤ 8388608 := by simp only [ByteArray.size_append]; omega
  have i2 : ((ma ++ o1 ++ o2).size : Int) ≤ 8388608 := by simp only [ByteArray.size_append]; omega
  have i3 : ((ma ++ o1 ++ o2 ++ r.s).size : Int) ≤ 8388608 := by simp only [ByteArray.size_append]; omega
  have i4 : ((ma ++ o1 ++ o2 ++ r.s ++ o3).size : Int) ≤ 8388608 := by simp only [ByteArray.size_append]; omega
  have i5 : ((ma ++ o1 ++ o2 ++ r.s ++ o3 ++ r.p).size : Int) ≤ 8388608 := by simp only [ByteArray.size_append]; omega
  have i6 : ((ma ++ o1 ++ o2 ++ r.s ++ o3 ++ r.p ++ o4).size : Int) ≤ 8388608 := by simp only [ByteArray.size_append]; omega
  have i7 : ((ma ++ o1 ++ o2 ++ r.s ++ o3 ++ r.p ++ o4 ++ o5).size : Int) ≤ 8388608 := by simp only [ByteArray.size_append]; omega
  have q0 : Sm (ma) := i0
  have q1 : Sm (ma ++ o1) := i1
  have q2 : Sm (ma ++ o1 ++ o2) := i2
  have q3 : Sm (ma ++ o1 ++ o2 ++ r.s) := i3
  have q4 : Sm (ma ++ o1 ++ o2 ++ r.s ++ o3) := i4
  have q5 : Sm (ma ++ o1 ++ o2 ++ r.s ++ o3 ++ r.p) := i5
  have q6 : Sm (ma ++ o1 ++ o2 ++ r.s ++ o3 ++ r.p ++ o4) := i6
  have q7 : Sm (ma ++ o1 ++ o2 ++ r.s ++ o3 ++ r.p ++ o4 ++ o5) := i7
  have p1 : Sm o1 := j1
  have p2 : Sm o2 := j2
  have p3 : Sm r.s := j3
  have p4 : Sm o3 := j4
  have p5 : Sm r.p := j5
  have p6 : Sm o4 := j6
  have p7 : Sm o5 := j7
  have p8 : Sm r.d := j8
  clear z0 y1 y2 y3 y4 y5 hp16 hs10 hd416 i0 i1 i2 i3 i4 i5 i6 i7 j1 j2 j3 j4 j5 j6 j7 j8
  go_enter Tryd.func6, Tryd.ntmps6
  go_upto_region 1 with fail
  obtain ⟨W1, hW1⟩ : ∃ W1, w.alloc (.cells #[.int .i64 (r.q : Int), .string r.s, .int .i64 (r.g : Int), .string r.p, .string r.d] 23) = W1 := ⟨_, rfl⟩
  have E1 : Hid (HasR W1 w.heap.size 23 (recA r)) := hide (by rw [← hW1]; exact E0.out)
  rw [hW1] at BL ⊢
  clear E0 hW1
  have CC := hide (fun wx (hb : Below W1.heap.size W1 wx) => rec_cells (E1.out.below hb E1.out.lt))
  obtain ⟨a0, a1, a2, a3, a4⟩ := CC.out _ (Below.refl _ W1)
  go_upto_region 4 with (go_at_call 10; (with_reducible refine (R.out _).mono ?_); rintro y w2 ⟨rfl, hb2⟩; have B2 := hide hb2; clear hb2)
  clear a0 a1 a2 a3 a4
  obtain ⟨a0, a1, a2, a3, a4⟩ := CC.out _ B2.out
  have BD := hide B2.out.drew
  have MD := hide (MK.out _ (KK.out _ (BL.out.trans (BD.out.mono BL.out.size))))
  go_region_held3 (fun wx => wx.cell? ⟨w.heap.size, 0, none⟩ = some (.int .i64 (r.q : Int)) ∧ wx.cell? ⟨w.heap.size, 1, none⟩ = some (.string r.s) ∧ wx.cell? ⟨w.heap.size, 2, none⟩ = some (.int .i64 (r.g : Int)) ∧ wx.cell? ⟨w.heap.size, 3, none⟩ = some (.string r.p) ∧ wx.cell? ⟨w.heap.size, 4, none⟩ = some (.string r.d)) (first | (with_reducible exact C8.out) | (with_reducible exact C7.out) | (with_reducible exact C6.out) | (with_reducible exact C5.out) | (with_reducible exact C4.out) | (with_reducible exact C3.out) | go_keep)
    (first
    | (go_at_call 20; (with_reducible refine MD.out.mono ?_); rintro y w3 ⟨rfl, hb⟩; have B3 := hide (BD.out.trans (hb.mono BD.out.size)); have C3 := hide (CC.out _ B3.out); clear hb)
    | (go_at_call 19; (with_reducible refine (O1.out _).mono ?_); rintro y w4 ⟨rfl, hb⟩; have B4 := hide (B3.out.trans (hb.mono B3.out.size)); have C4 := hide (CC.out _ B4.out); clear hb)
    | (go_at_call 19; (with_reducible refine (O2.out _).mono ?_); rintro y w5 ⟨rfl, hb⟩; have B5 := hide (B4.out.trans (hb.mono B4.out.size)); have C5 := hide (CC.out _ B5.out); clear hb)
    | (go_at_call 19; (with_reducible refine (O3.out _).mono ?_); rintro y w6 ⟨rfl, hb⟩; have B6 := hide (B5.out.trans (hb.mono B5.out.size)); have C6 := hide (CC.out _ B6.out); clear hb)
    | (go_at_call 19; (with_reducible refine (O4.out _).mono ?_); rintro y w7 ⟨rfl, hb⟩; have B7 := hide (B6.out.trans (hb.mono B6.out.size)); have C7 := hide (CC.out _ B7.out); clear hb)
    | (go_at_call 19; (with_reducible refine (O5.out _).mono ?_); rintro y w8 ⟨rfl, hb⟩; have B8 := hide (B7.out.trans (hb.mono B7.out.size)); have C8 := hide (CC.out _ B8.out); clear hb))
  all_goals
    go_wp2
    go_ret2
    exact ⟨by rw [← HW.out]; rfl, BL.out.trans (B8.out.mono BL.out.size)⟩
end Go.Proofs.YtjobghphjkeohaaDoor

/- The document's first: a text that reaches as far as a record would; and first of any text. -/
namespace Go.Proofs.YtjobghphjkeohaaDoor
open Go.RowKit
attribute [local go_sem ↓] Go.wp_at_zero Go.wp_at_succ
def noneV : Value := .tuple #[.agg #[.int .i64 0, .string ⟨#[]⟩, .int .i64 0, .string ⟨#[]⟩, .string ⟨#[]⟩], .int .i64 0]
set_option maxRecDepth 100000 in
set_option maxHeartbeats 2000000 in
theorem refFirst_full (b : Nat) (S : ByteArray) (L n k k1 k17 k18 k19 km q g m1 m2 m256 m : Nat) (s p d T : ByteArray) (e : Int) (pb : Bool) (out : Value) (w : World) (hS : S.size = L) (F : FirstAt S n k k1 k17 k18 q g m1 m2 m256 m s p)
    (h19 : (k : Int) + 19 = (k19 : Int)) (hkm : (k19 : Int) + (m : Int) = (km : Int)) (h2 : km ≤ L) (hR : RefR w b)
    (c3 : ∀ w : World, (Instr.slice 9 (.string S) (some (.int .i64 (k19 : Int))) (some (.int .i64 (km : Int))) none).run Tryd.prog w = .ok (.string d) w)
    (hW : ∀ wx, RefR wx b → Calls Tryd.prog 6 #[.pointer (some ⟨b, 0, none⟩), .agg #[.int .i64 (q : Int), .string s, .int .i64 (g : Int), .string p, .string d]] wx fun x w' => x = .returned (.tuple #[.string T, .int .i64 e]) ∧ Below wx.heap.size wx w')
    (hP : ∀ wx, Calls Tryd.prog 37 #[.string S, .string T] wx fun x w' => x = .returned (.bool pb) ∧ w' = wx)
    (hc : (e = 1 ∧ out = noneV) ∨ (e = 0 ∧ pb = false ∧ out = noneV) ∨ (e = 0 ∧ pb = true ∧ out = .tuple #[.agg #[.int .i64 (q : Int), .string s, .int .i64 (g : Int), .string p, .string d], .int .i64 (T.size : Int)])) :
    Calls Tryd.prog 26 #[.pointer (some ⟨b, 0, none⟩), .string S] w fun x w' => x = .returned out ∧ Below w.heap.size w w' := by
  have X0 := hide (HasR.new w 23 #[.int .i64 0, .string ⟨#[]⟩, .int .i64 0, .string ⟨#[]⟩, .string ⟨#[]⟩])
  have BL : Hid (Below w.heap.size w (w.alloc (.cells #[.int .i64 0, .string ⟨#[]⟩, .int .i64 0, .string ⟨#[]⟩, .string ⟨#[]⟩] 23))) := hide ((Below.refl _ w).alloc (Nat.le_refl _) _)
  have KK := hide (fun wx (hb : Below w.heap.size w wx) => hR.below hb hR.lt)
  have WW := hide hW
  have PP := hide hP
  have HC := hide hc
  clear hR hW hP hc
  obtain ⟨i17, i16, ik, ik17, ik18, c1, c2, hk, w1, w17, w18, v1, v2, bq, bg, b1, b2, ln, lk, lm⟩ := F
  have t18 : ¬ (L : Int) < 18 := by omega
  have tn : ¬ (L : Int) < (k19 : Int) := by omega
  have tm : ¬ (L : Int) < (km : Int) := by omega
  go_enter Tryd.func26, Tryd.ntmps26
  go_upto_region 1 with fail
  generalize w.alloc (.cells #[.int .i64 0, .string ⟨#[]⟩, .int .i64 0, .string ⟨#[]⟩, .string ⟨#[]⟩] 23) = w3 at X0 BL ⊢
  go_upto_region 4 with fail
  go_cut [7] (fun p7 wx => p7 = .pointer (some ⟨w3.heap.size, 0, none⟩) ∧ wx = (w3.alloc (.cells #[.int .i64 (q : Int), .string s, .int .i64 (g : Int), .string p, .string ⟨#[]⟩] 23)).drew)
  case first =>
    go_region_held3 (fun _ => True) (trivial) (fail)
    all_goals (go_wp2; go_meet; exact ⟨rfl, rfl⟩)
  case rest =>
    obtain ⟨rfl, rfl⟩ := hcut
    have hlt3 := X0.out.lt
    have X4 := hide (X0.out.alloc (.cells #[.int .i64 (q : Int), .string s, .int .i64 (g : Int), .string p, .string ⟨#[]⟩] 23)).drew.drew
    have B4 := hide (BL.out.alloc BL.out.size (.cells #[.int .i64 (q : Int), .string s, .int .i64 (g : Int), .string p, .string ⟨#[]⟩] 23)).drew.drew
    have R4 := hide (HasR.new w3 23 #[.int .i64 (q : Int), .string s, .int .i64 (g : Int), .string p, .string ⟨#[]⟩]).drew.drew
    have hbs := BL.out.size
    go_upto_region 5 with fail
    go_region
    generalize ((w3.alloc (.cells #[.int .i64 (q : Int), .string s, .int .i64 (g : Int), .string p, .string ⟨#[]⟩] 23)).drew).drew = w5 at X4 B4 R4 ⊢
    have r4 : w5.cell? ⟨w3.heap.size, 4, none⟩ = some (.string ⟨#[]⟩) := R4.out.cell 4
    have f4 : w5.frozen? ⟨w3.heap.size, 4, none⟩ = false := R4.out.free 4
    go_upto_region 9 with fail
    have R6 := hide (R4.out.set 4 (.string d))
    have X6 := hide (X4.out.other ⟨w3.heap.size, 4, none⟩ (by simp; omega) (.string d))
    have B6 := hide (B4.out.setCell (p := ⟨w3.heap.size, 4, none⟩) (by simp; omega) (.string d))
    clear r4 f4
    generalize w5.setCell ⟨w3.heap.size, 4, none⟩ (.string d) = w6 at R6 X6 B6 ⊢
    have r0 : w6.cell? ⟨w3.heap.size, 0, none⟩ = some (.int .i64 (q : Int)) := R6.out.cell 0
    have r1 : w6.cell? ⟨w3.heap.size, 1, none⟩ = some (.string s) := R6.out.cell 1
    have r2 : w6.cell? ⟨w3.heap.size, 2, none⟩ = some (.int .i64 (g : Int)) := R6.out.cell 2
    have r3 : w6.cell? ⟨w3.heap.size, 3, none⟩ = some (.string p) := R6.out.cell 3
    have r4 : w6.cell? ⟨w3.heap.size, 4, none⟩ = some (.string d) := R6.out.cell 4
    have WX := hide (WW.out w6 (KK.out _ B6.out))
    go_upto_region 10 with (go_at_call 6; (with_reducible refine WX.out.mono ?_); rintro y w7 ⟨rfl, hb7⟩; have B7 := hide hb7; clear hb7)
    have X7 := hide (X6.out.below B7.out X6.out.lt)
    have R7 := hide (R6.out.below B7.out R6.out.lt)
    have B8 := hide (B6.out.trans (B7.out.mono B6.out.size))
    clear r0 r1 r2 r3 r4
    obtain ⟨⟨t0, t1, t2, t3, t4⟩, u0, u1, u2, u3, u4⟩ := X7.out.rec0
    rcases HC.out with ⟨rfl, rfl⟩ | ⟨rfl, rfl, rfl⟩ | ⟨rfl, rfl, rfl⟩
    · go_wp2_with fail
      have TF := stir5 w7 w.heap.size (.int .i64 0) (.string ⟨#[]⟩) (.int .i64 0) (.string ⟨#[]⟩) (.string ⟨#[]⟩)
      have X9 := HasR.five X7.out (.int .i64 0) (.string ⟨#[]⟩) (.int .i64 0) (.string ⟨#[]⟩) (.string ⟨#[]⟩)
      generalize ((((w7.setCell ⟨w.heap.size, 0, none⟩ (.int .i64 0)).setCell ⟨w.heap.size, 1, none⟩ (.string ⟨#[]⟩)).setCell ⟨w.heap.size, 2, none⟩ (.int .i64 0)).setCell ⟨w.heap.size, 3, none⟩ (.string ⟨#[]⟩)).setCell ⟨w.heap.size, 4, none⟩ (.string ⟨#[]⟩) = w9 at TF X9 ⊢
      obtain ⟨⟨z0, z1, z2, z3, z4⟩, _⟩ := X9.rec0
      refine bodyPost_ret (v := .tuple #[.agg #[.int .i64 0, .string ⟨#[]⟩, .int .i64 0, .string ⟨#[]⟩, .string ⟨#[]⟩], .int .i64 0]) (by simp [results, Tryd.results26, go_sem, z0, z1, z2, z3, z4]) rfl ⟨rfl, B8.out.trans (TF.below B8.out.size (fun j hj => by simp at hj; omega))⟩
    · go_wp2_with (go_at_call 37; (with_reducible refine (PP.out _).mono ?_); rintro y w8 ⟨rfl, hw8⟩; obtain rfl := hw8.symm)
      have TF := stir5 w7 w.heap.size (.int .i64 0) (.string ⟨#[]⟩) (.int .i64 0) (.string ⟨#[]⟩) (.string ⟨#[]⟩)
      have X9 := HasR.five X7.out (.int .i64 0) (.string ⟨#[]⟩) (.int .i64 0) (.string ⟨#[]⟩) (.string ⟨#[]⟩)
      generalize ((((w7.setCell ⟨w.heap.size, 0, none⟩ (.int .i64 0)).setCell ⟨w.heap.size, 1, none⟩ (.string ⟨#[]⟩)).setCell ⟨w.heap.size, 2, none⟩ (.int .i64 0)).setCell ⟨w.heap.size, 3, none⟩ (.string ⟨#[]⟩)).setCell ⟨w.heap.size, 4, none⟩ (.string ⟨#[]⟩) = w9 at TF X9 ⊢
      obtain ⟨⟨z0, z1, z2, z3, z4⟩, _⟩ := X9.rec0
      refine bodyPost_ret (v := .tuple #[.agg #[.int .i64 0, .string ⟨#[]⟩, .int .i64 0, .string ⟨#[]⟩, .string ⟨#[]⟩], .int .i64 0]) (by simp [results, Tryd.results26, go_sem, z0, z1, z2, z3, z4]) rfl ⟨rfl, B8.out.trans (TF.below B8.out.size (fun j hj => by simp at hj; omega))⟩
    · have r0 : w7.cell? ⟨w3.heap.size, 0, none⟩ = some (.int .i64 (q : Int)) := R7.out.cell 0
      have r1 : w7.cell? ⟨w3.heap.size, 1, none⟩ = some (.string s) := R7.out.cell 1
      have r2 : w7.cell? ⟨w3.heap.size, 2, none⟩ = some (.int .i64 (g : Int)) := R7.out.cell 2
      have r3 : w7.cell? ⟨w3.heap.size, 3, none⟩ = some (.string p) := R7.out.cell 3
      have r4 : w7.cell? ⟨w3.heap.size, 4, none⟩ = some (.string d) := R7.out.cell 4
      go_wp2_with (go_at_call 37; (with_reducible refine (PP.out _).mono ?_); rintro y w8 ⟨rfl, hw8⟩; obtain rfl := hw8.symm)
      have TF := stir5 w7 w.heap.size (.int .i64 (q : Int)) (.string s) (.int .i64 (g : Int)) (.string p) (.string d)
      have X9 := HasR.five X7.out (.int .i64 (q : Int)) (.string s) (.int .i64 (g : Int)) (.string p) (.string d)
      generalize ((((w7.setCell ⟨w.heap.size, 0, none⟩ (.int .i64 (q : Int))).setCell ⟨w.heap.size, 1, none⟩ (.string s)).setCell ⟨w.heap.size, 2, none⟩ (.int .i64 (g : Int))).setCell ⟨w.heap.size, 3, none⟩ (.string p)).setCell ⟨w.heap.size, 4, none⟩ (.string d) = w9 at TF X9 ⊢
      have z0 := X9.cell 0
      have z1 := X9.cell 1
      have z2 := X9.cell 2
      have z3 := X9.cell 3
      have z4 := X9.cell 4
      simp at z0 z1 z2 z3 z4
      refine bodyPost_ret (v := .tuple #[.agg #[.int .i64 (q : Int), .string s, .int .i64 (g : Int), .string p, .string d], .int .i64 (T.size : Int)]) (by simp [results, Tryd.results26, go_sem, z0, z1, z2, z3, z4]) rfl ⟨rfl, B8.out.trans (TF.below B8.out.size (fun j hj => by simp at hj; omega))⟩
end Go.Proofs.YtjobghphjkeohaaDoor
