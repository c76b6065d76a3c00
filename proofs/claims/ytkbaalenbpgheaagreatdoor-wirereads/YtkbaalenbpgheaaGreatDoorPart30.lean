/- Texts of this proof, one behind the other. -/
import Derived.Test.YtkbaalenbpgheaaGreatDoorPart29
/- A record written: the program's Right and Write. -/
namespace Go.Proofs.YtkbaalenbpgheaaGreatDoor
open Go.RowKit
attribute [local go_sem ↓] Go.wp_at_zero Go.wp_at_succ
set_option maxRecDepth 100000 in
set_option maxHeartbeats 4000000 in
/-- May it be written? Whatever its numbers. -/
theorem rightI_any (q : Int) (s : ByteArray) (g : Int) (p d : ByteArray) (w : World) :
    Calls Tryz.prog 95 #[.agg #[.int .i64 q, .string s, .int .i64 g, .string p, .string d]] w fun x w' => x = .returned (.bool (rightI q s g p d)) ∧ Below w.heap.size w w' := by
  have N := hide (fun wx => name_any s wx)
  have bel : Below w.heap.size w (w.alloc (.cells #[.int .i64 q, .string s, .int .i64 g, .string p, .string d] 30)) := (Below.refl _ w).alloc (Nat.le_refl _) _
  have BL := hide bel
  clear bel
  unfold rightI
  generalize nameB s.data.toList = b3 at N ⊢
  by_cases h1 : 1 ≤ q
  · by_cases h2 : q ≤ 100
    · cases b3 with
      | false =>
        have d1 : decide (1 ≤ q) = true := decide_eq_true h1
        have d2 : decide (q ≤ 100) = true := decide_eq_true h2
        rw [d1, d2]
        go_enter Tryz.func95, Tryz.ntmps95
        go_wp2_with (go_at_call 102; (with_reducible refine (N.out _).mono ?_); rintro y w1 ⟨rfl, hw1⟩; obtain rfl := hw1.symm)
        go_ret
        exact ⟨rfl, BL.out⟩
      | true =>
        by_cases h4 : 0 ≤ g
        · by_cases h5 : g ≤ 100
          · by_cases h6 : p.size = 16
            · have d1 : decide (1 ≤ q) = true := decide_eq_true h1
              have d2 : decide (q ≤ 100) = true := decide_eq_true h2
              have d4 : decide (0 ≤ g) = true := decide_eq_true h4
              have d5 : decide (g ≤ 100) = true := decide_eq_true h5
              have d6 : decide (p.size = 16) = true := decide_eq_true h6
              have d8 : ((p.size : Int) == 16) = true := by simp; omega
              rw [d1, d2, d4, d5, d6]
              clear h6
              go_enter Tryz.func95, Tryz.ntmps95
              go_wp2_with (go_at_call 102; (with_reducible refine (N.out _).mono ?_); rintro y w1 ⟨rfl, hw1⟩; obtain rfl := hw1.symm)
              go_ret
              have d7 : decide ((d.size : Int) ≤ 416) = decide (d.size ≤ 416) := by
                by_cases h7 : d.size ≤ 416
                · rw [decide_eq_true h7, decide_eq_true (by omega)]
                · rw [decide_eq_false h7, decide_eq_false (by omega)]
              refine ⟨ret_val ?_, BL.out⟩
              rw [← d7]
              rfl
            · have d1 : decide (1 ≤ q) = true := decide_eq_true h1
              have d2 : decide (q ≤ 100) = true := decide_eq_true h2
              have d4 : decide (0 ≤ g) = true := decide_eq_true h4
              have d5 : decide (g ≤ 100) = true := decide_eq_true h5
              have d6 : decide (p.size = 16) = false := decide_eq_false h6
              have d8 : ((p.size : Int) == 16) = false := by rw [beq_eq_false_iff_ne]; omega
              rw [d1, d2, d4, d5, d6]
              clear h6
              go_enter Tryz.func95, Tryz.ntmps95
              go_wp2_with (go_at_call 102; (with_reducible refine (N.out _).mono ?_); rintro y w1 ⟨rfl, hw1⟩; obtain rfl := hw1.symm)
              go_ret
              exact ⟨rfl, BL.out⟩
          · have d1 : decide (1 ≤ q) = true := decide_eq_true h1
            have d2 : decide (q ≤ 100) = true := decide_eq_true h2
            have d4 : decide (0 ≤ g) = true := decide_eq_true h4
            have d5 : decide (g ≤ 100) = false := decide_eq_false h5
            rw [d1, d2, d4, d5]
            go_enter Tryz.func95, Tryz.ntmps95
            go_wp2_with (go_at_call 102; (with_reducible refine (N.out _).mono ?_); rintro y w1 ⟨rfl, hw1⟩; obtain rfl := hw1.symm)
            go_ret
            exact ⟨rfl, BL.out⟩
        · have d1 : decide (1 ≤ q) = true := decide_eq_true h1
          have d2 : decide (q ≤ 100) = true := decide_eq_true h2
          have d4 : decide (0 ≤ g) = false := decide_eq_false h4
          rw [d1, d2, d4]
          go_enter Tryz.func95, Tryz.ntmps95
          go_wp2_with (go_at_call 102; (with_reducible refine (N.out _).mono ?_); rintro y w1 ⟨rfl, hw1⟩; obtain rfl := hw1.symm)
          go_ret
          exact ⟨rfl, BL.out⟩
    · have d1 : decide (1 ≤ q) = true := decide_eq_true h1
      have d2 : decide (q ≤ 100) = false := decide_eq_false h2
      rw [d1, d2]
      go_enter Tryz.func95, Tryz.ntmps95
      go_wp2
      go_ret
      exact ⟨rfl, BL.out⟩
  · have d1 : decide (1 ≤ q) = false := decide_eq_false h1
    rw [d1]
    go_enter Tryz.func95, Tryz.ntmps95
    go_wp2
    go_ret
    exact ⟨rfl, BL.out⟩
set_option maxRecDepth 100000 in
set_option maxHeartbeats 1000000 in
/-- What may not be is not written. -/
theorem write_bad (q : Int) (s : ByteArray) (g : Int) (p d : ByteArray) (w : World) (h : rightI q s g p d = false) :
    Calls Tryz.prog 66 #[.agg #[.int .i64 q, .string s, .int .i64 g, .string p, .string d]] w fun x w' => x = .returned (.tuple #[.string ⟨#[]⟩, .iface 56 (.int .i64 1)]) ∧ Below w.heap.size w w' := by
  have bel : Below w.heap.size w (w.alloc (.cells #[.int .i64 q, .string s, .int .i64 g, .string p, .string d] 30)) := (Below.refl _ w).alloc (Nat.le_refl _) _
  have R0 := rightI_any q s g p d (w.alloc (.cells #[.int .i64 q, .string s, .int .i64 g, .string p, .string d] 30))
  rw [h] at R0
  have R := hide R0
  have BL := hide bel
  clear bel R0 h
  go_enter Tryz.func66, Tryz.ntmps66
  go_wp2_with (go_at_call 95; (with_reducible refine R.out.mono ?_); rintro y w1 ⟨rfl, hb1⟩)
  go_ret2
  exact ⟨rfl, BL.out.trans (hb1.mono BL.out.size)⟩
theorem bytesV_u8 (l : List UInt8) (n : Nat) : bytesV l ++ [Value.int .u8 ((n : Int) % 256)] = bytesV (l ++ [u8 n]) := by
  rw [bytesV_app]
  congr 1
theorem bytesV_u82 (l : List UInt8) (n m : Nat) : bytesV l ++ [Value.int .u8 ((n : Int) % 256), Value.int .u8 ((m : Int) % 256)] = bytesV (l ++ [u8 n, u8 m]) := by
  rw [bytesV_app]
  congr 1
theorem bytesV_b (l : List UInt8) {n : Nat} (h : n < 256) : bytesV l ++ [Value.int .u8 (n : Int)] = bytesV (l ++ [u8 n]) := by
  rw [← bytesV_u8, show (n : Int) % 256 = (n : Int) by omega]
theorem bytesV_b2 (l : List UInt8) {n m : Nat} (h : n < 256) (h2 : m < 256) : bytesV l ++ [Value.int .u8 (n : Int), Value.int .u8 (m : Int)] = bytesV (l ++ [u8 n, u8 m]) := by
  rw [← bytesV_u82, show (n : Int) % 256 = (n : Int) by omega, show (m : Int) % 256 = (m : Int) by omega]
theorem bytesV_size (l : List UInt8) {n : Nat} (h : n < 65536) : bytesV l ++ [Value.int .u8 ((n : Int) / 256), Value.int .u8 ((n : Int) % 256)] = bytesV (l ++ sizeL n) := by
  have h1 : (n : Int) / 256 = ((n / 256 : Nat) : Int) := by omega
  have h2 : (n : Int) % 256 = ((n % 256 : Nat) : Int) := by omega
  rw [h1, h2]
  exact bytesV_b2 l (by omega) (by omega)
theorem one_byte (a : Int) : ∀ u ∈ [Value.int .u8 a], u.oneCell' = true := by
  intro u hu
  simp at hu
  rw [hu]; rfl
theorem two_bytes (a b : Int) : ∀ u ∈ [Value.int .u8 a, Value.int .u8 b], u.oneCell' = true := by
  intro u hu
  simp at hu
  rcases hu with hu | hu <;> rw [hu] <;> rfl
set_option maxRecDepth 100000 in
set_option maxHeartbeats 4000000 in
/-- What may be is written. -/
theorem write_ok (r : Rec) (h : RightR r) (w : World) (hK : TabK w) :
    Calls Tryz.prog 66 #[.agg #[.int .i64 (r.q : Int), .string r.s, .int .i64 (r.g : Int), .string r.p, .string r.d]] w fun x w' => x = .returned (.tuple #[.string (tx (wireL r)), .nilIface]) ∧ Below w.heap.size w w' := by
  obtain ⟨i5, hE⟩ := elemB
  have hs10 := nameB_len h.s
  have fit : Fit r := ⟨by have := h.q2; omega, by have := h.g; omega, by omega, by have := h.p; omega, by have := h.d; omega⟩
  have bel : Below w.heap.size w (w.alloc (.cells #[.int .i64 (r.q : Int), .string r.s, .int .i64 (r.g : Int), .string r.p, .string r.d] 30)) := (Below.refl _ w).alloc (Nat.le_refl _) _
  have E0 := hide (HasR.new w 30 #[.int .i64 (r.q : Int), .string r.s, .int .i64 (r.g : Int), .string r.p, .string r.d])
  have BL := hide bel
  have KK := hide (fun wx (hb : Below w.heap.size w wx) => hK.below hb hK.lt)
  have R := hide (fun wx => (by have := rightI_any r.q r.s r.g r.p r.d wx; rw [show rightI r.q r.s r.g r.p r.d = true from rightRB_iff.2 h] at this; exact this : Calls Tryz.prog 95 #[.agg #[.int .i64 (r.q : Int), .string r.s, .int .i64 (r.g : Int), .string r.p, .string r.d]] wx fun x w' => x = .returned (.bool true) ∧ Below wx.heap.size wx w'))
  have MK := hide (fun wx (hk : TabK wx) => markRec_any r wx fit hk)
  have HMS := hide (markR_size r)
  have hp16 := h.p
  have hq100 := h.q2
  have hg100 := h.g
  have hd416 := h.d
  have HW : Hid (wireL r = (markR r).data.toList ++ (u8 r.q :: u8 r.s.size :: (r.s.data.toList ++ (u8 r.g :: (r.p.data.toList ++ (sizeL r.d.size ++ r.d.data.toList)))))) := rfl
  generalize markR r = ma at MK HMS HW
  generalize wireL r = WL at HW ⊢
  clear bel fit h hK
  obtain ⟨q, s, g, p, d⟩ := r
  simp only at *
  go_enter Tryz.func66, Tryz.ntmps66
  go_upto_region 1 with fail
  generalize w.alloc (.cells #[.int .i64 (q : Int), .string s, .int .i64 (g : Int), .string p, .string d] 30) = W1 at E0 BL ⊢
  have e0 : W1.cell? ⟨w.heap.size, 0, none⟩ = some (.int .i64 (q : Int)) := E0.out.cell 0
  have e1 : W1.cell? ⟨w.heap.size, 1, none⟩ = some (.string s) := E0.out.cell 1
  have e2 : W1.cell? ⟨w.heap.size, 2, none⟩ = some (.int .i64 (g : Int)) := E0.out.cell 2
  have e3 : W1.cell? ⟨w.heap.size, 3, none⟩ = some (.string p) := E0.out.cell 3
  have e4 : W1.cell? ⟨w.heap.size, 4, none⟩ = some (.string d) := E0.out.cell 4
  have lw := E0.out.lt
  have CC := hide (fun wx (hb : Below W1.heap.size W1 wx) => (show wx.cell? ⟨w.heap.size, 0, none⟩ = some (.int .i64 (q : Int)) ∧ wx.cell? ⟨w.heap.size, 1, none⟩ = some (.string s) ∧ wx.cell? ⟨w.heap.size, 2, none⟩ = some (.int .i64 (g : Int)) ∧ wx.cell? ⟨w.heap.size, 3, none⟩ = some (.string p) ∧ wx.cell? ⟨w.heap.size, 4, none⟩ = some (.string d) from ⟨(E0.out.below hb lw).cell 0, (E0.out.below hb lw).cell 1, (E0.out.below hb lw).cell 2, (E0.out.below hb lw).cell 3, (E0.out.below hb lw).cell 4⟩))
  go_upto_region 4 with (first
    | (go_at_call 95; (with_reducible refine (R.out _).mono ?_); rintro y w2 ⟨rfl, hb2⟩
       have B2 := hide hb2
       obtain ⟨a0, a1, a2, a3, a4⟩ := CC.out _ hb2
       have MD := hide (MK.out w2 (KK.out _ (BL.out.trans (hb2.mono BL.out.size))))
       clear hb2)
    | (go_at_call 65; (with_reducible refine MD.out.mono ?_); rintro y w3 ⟨rfl, hb3⟩
       have B3 := hide (B2.out.trans (hb3.mono B2.out.size))
       clear hb3)
    | ((with_reducible refine conv_in ma ?_ ?_); rfl; intro cap w4 hr4 hg4 hz4))
  have hsz3 := B3.out.size
  have R4 := hide (hr4.mono hsz3)
  have B4 := hide (B3.out.grown hg4 hsz3 (fun k e => by cases e))
  clear hr4 hg4
  have hma := HMS.out
  obtain ⟨a0, a1, a2, a3, a4⟩ := CC.out _ B4.out
  have hl4 := B4.out.size
  have n4 : ma.size + 2 ≤ 1000000 := by omega
  clear hma hz4
  go_upto_region 5 with (at_builtin; refine append_br 5 hE W1.heap.size _ ma.size (bytesV ma.data.toList) ⟨w4.heap.size, 0, none⟩ 2 2 [.int .u8 (q : Int), .int .u8 (s.size : Int)] rfl rfl (BRn.of (R4.out.alloc _)) rfl (by omega) (news_blk (HasR.new w4 5 #[.int .u8 (q : Int), .int .u8 (s.size : Int)])) (two_bytes _ _) n4 (by simp; omega) ?_; intro g5 cap5 w5 hr5 hg5 hl5 hb5; rw [bytesV_b2 _ (by omega) (by omega)] at hr5; have R5 := hide hr5; have B5 := hide ((B4.out.alloc hl4 (.cells #[.int .u8 (q : Int), .int .u8 (s.size : Int)] 5)).trans hb5); clear hr5 hg5 hl5 hb5)
  clear a0 a1 a2 a3 a4 R4
  obtain ⟨a0, a1, a2, a3, a4⟩ := CC.out _ B5.out
  have hl5 := B5.out.size
  have n5 : ma.size + 2 + s.size ≤ 1000000 := by have := HMS.out; omega
  go_upto_region 6 with (at_builtin; refine append_str hE W1.heap.size g5 (ma.size + 2) cap5 (ma.data.toList ++ [u8 q, u8 s.size]) s rfl rfl R5.out n5 hl5 ?_; intro g6 cap6 w6 hr6 hb6; have R6 := hide hr6; have B6 := hide (B5.out.trans hb6); clear hr6 hb6)
  clear a0 a1 a2 a3 a4 R5
  obtain ⟨a0, a1, a2, a3, a4⟩ := CC.out _ B6.out
  have hl6 := B6.out.size
  have n6 : ma.size + 2 + s.size + 1 ≤ 1000000 := by have := HMS.out; omega
  go_upto_region 7 with (at_builtin; refine append_br 5 hE W1.heap.size _ (ma.size + 2 + s.size) (bytesV (ma.data.toList ++ [u8 q, u8 s.size] ++ s.data.toList)) ⟨w6.heap.size, 0, none⟩ 1 1 [.int .u8 (g : Int)] rfl rfl (BRn.of (R6.out.alloc _)) rfl (by omega) (news_blk (HasR.new w6 5 #[.int .u8 (g : Int)])) (one_byte _) n6 (by simp; omega) ?_; intro g7 cap7 w7 hr7 hg7 hl7 hb7; rw [bytesV_b _ (by omega)] at hr7; have R7 := hide hr7; have B7 := hide ((B6.out.alloc hl6 (.cells #[.int .u8 (g : Int)] 5)).trans hb7); clear hr7 hg7 hl7 hb7)
  clear a0 a1 a2 a3 a4 R6
  obtain ⟨a0, a1, a2, a3, a4⟩ := CC.out _ B7.out
  have hl7 := B7.out.size
  have n7 : ma.size + 2 + s.size + 1 + p.size ≤ 1000000 := by have := HMS.out; omega
  have HP := hide hp16
  clear hp16
  go_upto_region 8 with (at_builtin; refine append_str hE W1.heap.size g7 (ma.size + 2 + s.size + 1) cap7 (ma.data.toList ++ [u8 q, u8 s.size] ++ s.data.toList ++ [u8 g]) p rfl rfl R7.out n7 hl7 ?_; intro g8 cap8 w8 hr8 hb8; have R8 := hide hr8; have B8 := hide (B7.out.trans hb8); clear hr8 hb8)
  clear a0 a1 a2 a3 a4 R7
  obtain ⟨a0, a1, a2, a3, a4⟩ := CC.out _ B8.out
  have hl8 := B8.out.size
  have n8 : ma.size + 2 + s.size + 1 + p.size + 2 ≤ 1000000 := by have := HMS.out; have := HP.out; omega
  go_upto_region 9 with (at_builtin; refine append_br 5 hE W1.heap.size _ (ma.size + 2 + s.size + 1 + p.size) (bytesV (ma.data.toList ++ [u8 q, u8 s.size] ++ s.data.toList ++ [u8 g] ++ p.data.toList)) ⟨w8.heap.size, 0, none⟩ 2 2 [.int .u8 ((d.size : Int) / 256), .int .u8 ((d.size : Int) % 256)] rfl rfl (BRn.of (R8.out.alloc _)) rfl (by omega) (news_blk (HasR.new w8 5 #[.int .u8 ((d.size : Int) / 256), .int .u8 ((d.size : Int) % 256)])) (two_bytes _ _) n8 (by simp; omega) ?_; intro g9 cap9 w9 hr9 hg9 hl9 hb9; rw [bytesV_size _ (by omega)] at hr9; have R9 := hide hr9; have B9 := hide ((B8.out.alloc hl8 (.cells #[.int .u8 ((d.size : Int) / 256), .int .u8 ((d.size : Int) % 256)] 5)).trans hb9); clear hr9 hg9 hl9 hb9)
  clear a0 a1 a2 a3 a4 R8
  obtain ⟨a0, a1, a2, a3, a4⟩ := CC.out _ B9.out
  have hl9 := B9.out.size
  have n9 : ma.size + 2 + s.size + 1 + p.size + 2 + d.size ≤ 1000000 := by have := HMS.out; have := HP.out; omega
  go_wp2_with (first
    | (at_builtin; refine append_str hE W1.heap.size g9 (ma.size + 2 + s.size + 1 + p.size + 2) cap9 (ma.data.toList ++ [u8 q, u8 s.size] ++ s.data.toList ++ [u8 g] ++ p.data.toList ++ sizeL d.size) d rfl rfl R9.out n9 hl9 ?_; intro g10 cap10 w10 hr10 hb10; have R10 := hide hr10; have B10 := hide (B9.out.trans hb10); clear hr10 hb10)
    | ((with_reducible refine conv_out g10 (ma.size + 2 + s.size + 1 + p.size + 2 + d.size) cap10 (ma.data.toList ++ [u8 q, u8 s.size] ++ s.data.toList ++ [u8 g] ++ p.data.toList ++ sizeL d.size ++ d.data.toList) ?_ R10.out ?_); rfl))
  go_ret2
  exact ⟨by rw [HW.out]; rfl, BL.out.trans (B10.out.mono BL.out.size)⟩
end Go.Proofs.YtkbaalenbpgheaaGreatDoor

/- The record that bytes begin with: the program's first and Parse. -/
namespace Go.Proofs.YtkbaalenbpgheaaGreatDoor
open Go.RowKit
attribute [local go_sem ↓] Go.wp_at_zero Go.wp_at_succ
/-- Does a text begin so? -/
def preB (s t : ByteArray) : Bool := decide (t.data.toList <+: s.data.toList)
set_option maxRecDepth 100000 in
set_option maxHeartbeats 1000000 in
theorem hasPrefixL_any (s t : ByteArray) (w : World) : Calls Tryz.prog 161 #[.string s, .string t] w fun x w' => x = .returned (.bool (preB s t)) ∧ w' = w := by
  have e1 : s.data.toList.length = s.size := rfl
  have e2 : t.data.toList.length = t.size := rfl
  by_cases h : t.size ≤ s.size
  · have hx : (s.extract 0 t.size).data.toList = s.data.toList.take t.size := by
      have := congrArg (fun b : ByteArray => b.data.toList) (tx_take s.data.toList t.size)
      exact this
    have hq : ((s.extract 0 t.size).toList == t.toList) = preB s t := by
      rw [ByteArray.toList_eq, ByteArray.toList_eq, hx]
      unfold preB
      by_cases hp : t.data.toList <+: s.data.toList
      · rw [decide_eq_true hp, beq_iff_eq]
        rw [← e2]
        exact (List.prefix_iff_eq_take.1 hp).symm
      · rw [decide_eq_false hp, beq_eq_false_iff_ne]
        intro e
        exact hp (by rw [← e]; exact List.take_prefix _ _)
    have d1 : (t.size : Int) ≤ (s.size : Int) := by omega
    generalize preB s t = b at hq ⊢
    clear hx e1 e2
    go_enter Tryz.func161, Tryz.ntmps161
    go_wp2
    go_ret
    exact ⟨rfl, rfl⟩
  · have hp : preB s t = false := by
      unfold preB
      rw [decide_eq_false]
      intro hp
      have := hp.length_le
      omega
    rw [hp]
    have d1 : ¬ (t.size : Int) ≤ (s.size : Int) := by omega
    clear e1 e2 hp
    go_enter Tryz.func161, Tryz.ntmps161
    go_wp2
    go_ret
    exact ⟨rfl, rfl⟩
set_option maxRecDepth 100000 in
set_option maxHeartbeats 1000000 in
theorem hasPrefix_any (s t : ByteArray) (w : World) : Calls Tryz.prog 134 #[.string s, .string t] w fun x w' => x = .returned (.bool (preB s t)) ∧ w' = w := by
  have H := hide (hasPrefixL_any s t w)
  go_enter Tryz.func134, Tryz.ntmps134
  go_wp2_with (go_at_call 161; (with_reducible refine H.out.mono ?_); rintro y w1 ⟨rfl, hw1⟩; obtain rfl := hw1.symm)
  go_ret
  exact ⟨rfl, rfl⟩
/-- What first tells. -/
def recV (r : Rec) : Value := .agg #[.int .i64 (r.q : Int), .string r.s, .int .i64 (r.g : Int), .string r.p, .string r.d]
def firstV (l : List UInt8) : Value := match firstL l with
  | some r => .tuple #[recV r, .int .i64 ((wireL r).length : Int)]
  | none => .tuple #[.agg #[.int .i64 0, .string ⟨#[]⟩, .int .i64 0, .string ⟨#[]⟩, .string ⟨#[]⟩], .int .i64 0]
theorem firstV_some {l : List UInt8} {r : Rec} (h : firstL l = some r) : firstV l = .tuple #[recV r, .int .i64 ((wireL r).length : Int)] := by unfold firstV; rw [h]
theorem firstV_none {l : List UInt8} (h : firstL l = none) : firstV l = .tuple #[.agg #[.int .i64 0, .string ⟨#[]⟩, .int .i64 0, .string ⟨#[]⟩, .string ⟨#[]⟩], .int .i64 0] := by unfold firstV; rw [h]
set_option maxRecDepth 100000 in
set_option maxHeartbeats 4000000 in
theorem first_any (l : List UInt8) (w : World) (hK : TabK w) : Calls Tryz.prog 96 #[.string (tx l)] w fun x w' => x = .returned (firstV l) ∧ Below w.heap.size w w' := by
  have bel : Below w.heap.size w (w.alloc (.cells #[.int .i64 0, .string ⟨#[]⟩, .int .i64 0, .string ⟨#[]⟩, .string ⟨#[]⟩] 30)) := (Below.refl _ w).alloc (Nat.le_refl _) _
  have X0 := hide (HasR.new w 30 #[.int .i64 0, .string ⟨#[]⟩, .int .i64 0, .string ⟨#[]⟩, .string ⟨#[]⟩])
  have BL := hide bel
  have C := hide (fun wx => cut_any l wx)
  have KK := hide (fun wx (hb : Below w.heap.size w wx) => hK.below hb hK.lt)
  clear bel hK
  cases hr : rightRB (cutL l)
  · have hf : firstL l = none := by unfold firstL; rw [if_neg (fun h => by rw [hr] at h; cases h.1)]
    rw [firstV_none hf]
    have WB := hide (fun wx => write_bad (cutL l).q (cutL l).s (cutL l).g (cutL l).p (cutL l).d wx hr)
    have hen : ∀ w : World, (binOp .neq 32 (.iface 56 (.int .i64 1)) .nilIface).run Tryz.prog w = .ok (.bool true) w := fun w => by kernel_rfl
    generalize cutL l = r at C WB
    clear hr hf
    go_enter Tryz.func96, Tryz.ntmps96
    go_upto_region 1 with fail
    generalize w.alloc (.cells #[.int .i64 0, .string ⟨#[]⟩, .int .i64 0, .string ⟨#[]⟩, .string ⟨#[]⟩] 30) = W1 at X0 BL ⊢
    go_wp2_with (first
      | (go_at_call 133; (with_reducible refine (C.out _).mono ?_); rintro y w2 ⟨rfl, hb2⟩; have B2 := hide hb2; clear hb2)
      | (go_at_call 66; (with_reducible refine (WB.out _).mono ?_); rintro y w3 ⟨rfl, hb3⟩; have B3 := hide (B2.out.trans (hb3.mono B2.out.size)); have X3 := hide (X0.out.below B3.out X0.out.lt); have t0 : w3.cell? ⟨w.heap.size, 0, none⟩ = some (.int .i64 0) := X3.out.cell 0; have t1 : w3.cell? ⟨w.heap.size, 1, none⟩ = some (.string ⟨#[]⟩) := X3.out.cell 1; have t2 : w3.cell? ⟨w.heap.size, 2, none⟩ = some (.int .i64 0) := X3.out.cell 2; have t3 : w3.cell? ⟨w.heap.size, 3, none⟩ = some (.string ⟨#[]⟩) := X3.out.cell 3; have t4 : w3.cell? ⟨w.heap.size, 4, none⟩ = some (.string ⟨#[]⟩) := X3.out.cell 4; have u0 : w3.frozen? ⟨w.heap.size, 0, none⟩ = false := X3.out.free 0; have u1 : w3.frozen? ⟨w.heap.size, 1, none⟩ = false := X3.out.free 1; have u2 : w3.frozen? ⟨w.heap.size, 2, none⟩ = false := X3.out.free 2; have u3 : w3.frozen? ⟨w.heap.size, 3, none⟩ = false := X3.out.free 3; have u4 : w3.frozen? ⟨w.heap.size, 4, none⟩ = false := X3.out.free 4; clear hb3))
    have TF := stir5 w3 w.heap.size (.int .i64 0) (.string ⟨#[]⟩) (.int .i64 0) (.string ⟨#[]⟩) (.string ⟨#[]⟩)
    have X5 := HasR.five X3.out (.int .i64 0) (.string ⟨#[]⟩) (.int .i64 0) (.string ⟨#[]⟩) (.string ⟨#[]⟩)
    generalize ((((w3.setCell ⟨w.heap.size, 0, none⟩ (.int .i64 0)).setCell ⟨w.heap.size, 1, none⟩ (.string ⟨#[]⟩)).setCell ⟨w.heap.size, 2, none⟩ (.int .i64 0)).setCell ⟨w.heap.size, 3, none⟩ (.string ⟨#[]⟩)).setCell ⟨w.heap.size, 4, none⟩ (.string ⟨#[]⟩) = w4 at TF X5 ⊢
    have z0 := X5.cell 0
    have z1 := X5.cell 1
    have z2 := X5.cell 2
    have z3 := X5.cell 3
    have z4 := X5.cell 4
    simp at z0 z1 z2 z3 z4
    have BW := BL.out.trans (B3.out.mono BL.out.size)
    refine bodyPost_ret (v := .tuple #[.agg #[.int .i64 0, .string ⟨#[]⟩, .int .i64 0, .string ⟨#[]⟩, .string ⟨#[]⟩], .int .i64 0]) (by simp [results, Tryz.results96, go_sem, z0, z1, z2, z3, z4]) rfl ⟨rfl, BW.trans (TF.below BW.size (fun j hj => by simp at hj; omega))⟩
  · have hR : RightR (cutL l) := rightRB_iff.1 hr
    have WO := hide (fun wx (hk : TabK wx) => write_ok (cutL l) hR wx hk)
    have HPX := hide (fun wx => hasPrefix_any (tx l) (tx (wireL (cutL l))) wx)
    have hpre : preB (tx l) (tx (wireL (cutL l))) = decide (wireL (cutL l) <+: l) := rfl
    rw [hpre] at HPX
    have hne : ∀ w : World, (binOp .neq 32 .nilIface .nilIface).run Tryz.prog w = .ok (.bool false) w := fun w => by kernel_rfl
    by_cases hp : wireL (cutL l) <+: l
    · have hf : firstL l = some (cutL l) := by unfold firstL; rw [if_pos ⟨hr, hp⟩]
      rw [firstV_some hf]
      rw [decide_eq_true hp] at HPX
      have hcw : cutL (wireL (cutL l)) = cutL l := by have := cut_wire hR []; rwa [List.append_nil] at this
      have C2 := hide (fun wx => cut_any (wireL (cutL l)) wx)
      rw [hcw] at C2
      have hsz : (tx (wireL (cutL l))).size = (wireL (cutL l)).length := rfl
      unfold recV
      generalize wireL (cutL l) = WL at WO HPX C2 hsz ⊢
      generalize cutL l = r at C WO C2 ⊢
      clear hr hR hpre hp hf hcw
      go_enter Tryz.func96, Tryz.ntmps96
      go_upto_region 1 with fail
      generalize w.alloc (.cells #[.int .i64 0, .string ⟨#[]⟩, .int .i64 0, .string ⟨#[]⟩, .string ⟨#[]⟩] 30) = W1 at X0 BL ⊢
      go_wp2_with (first
        | (go_at_call 133; (with_reducible refine (C.out _).mono ?_); rintro y w2 ⟨rfl, hb2⟩; have B2 := hide hb2; have WX := hide (WO.out w2 (KK.out _ (BL.out.trans (hb2.mono BL.out.size)))); clear hb2)
        | (go_at_call 66; (with_reducible refine WX.out.mono ?_); rintro y w3 ⟨rfl, hb3⟩; have B3 := hide (B2.out.trans (hb3.mono B2.out.size)); clear hb3)
        | (go_at_call 134; (with_reducible refine (HPX.out _).mono ?_); rintro y w4 ⟨rfl, hw4⟩; obtain rfl := hw4.symm)
        | (go_at_call 133; (with_reducible refine (C2.out _).mono ?_); rintro y w5 ⟨rfl, hb5⟩; have B5 := hide (B3.out.trans (hb5.mono B3.out.size)); have X3 := hide (X0.out.below B5.out X0.out.lt); have t0 : w5.cell? ⟨w.heap.size, 0, none⟩ = some (.int .i64 0) := X3.out.cell 0; have t1 : w5.cell? ⟨w.heap.size, 1, none⟩ = some (.string ⟨#[]⟩) := X3.out.cell 1; have t2 : w5.cell? ⟨w.heap.size, 2, none⟩ = some (.int .i64 0) := X3.out.cell 2; have t3 : w5.cell? ⟨w.heap.size, 3, none⟩ = some (.string ⟨#[]⟩) := X3.out.cell 3; have t4 : w5.cell? ⟨w.heap.size, 4, none⟩ = some (.string ⟨#[]⟩) := X3.out.cell 4; have u0 : w5.frozen? ⟨w.heap.size, 0, none⟩ = false := X3.out.free 0; have u1 : w5.frozen? ⟨w.heap.size, 1, none⟩ = false := X3.out.free 1; have u2 : w5.frozen? ⟨w.heap.size, 2, none⟩ = false := X3.out.free 2; have u3 : w5.frozen? ⟨w.heap.size, 3, none⟩ = false := X3.out.free 3; have u4 : w5.frozen? ⟨w.heap.size, 4, none⟩ = false := X3.out.free 4; clear hb5))
      have TF := stir5 w5 w.heap.size (.int .i64 (r.q : Int)) (.string r.s) (.int .i64 (r.g : Int)) (.string r.p) (.string r.d)
      have X5 := HasR.five X3.out (.int .i64 (r.q : Int)) (.string r.s) (.int .i64 (r.g : Int)) (.string r.p) (.string r.d)
      generalize ((((w5.setCell ⟨w.heap.size, 0, none⟩ (.int .i64 (r.q : Int))).setCell ⟨w.heap.size, 1, none⟩ (.string r.s)).setCell ⟨w.heap.size, 2, none⟩ (.int .i64 (r.g : Int))).setCell ⟨w.heap.size, 3, none⟩ (.string r.p)).setCell ⟨w.heap.size, 4, none⟩ (.string r.d) = w6 at TF X5 ⊢
      have z0 := X5.cell 0
      have z1 := X5.cell 1
      have z2 := X5.cell 2
      have z3 := X5.cell 3
      have z4 := X5.cell 4
      simp at z0 z1 z2 z3 z4
      have BW := BL.out.trans (B5.out.mono BL.out.size)
      refine bodyPost_ret (v := .tuple #[.agg #[.int .i64 (r.q : Int), .string r.s, .int .i64 (r.g : Int), .string r.p, .string r.d], .int .i64 (WL.length : Int)]) (by simp [results, Tryz.results96, go_sem, z0, z1, z2, z3, z4]) rfl ⟨rfl, BW.trans (TF.below BW.size (fun j hj => by simp at hj; omega))⟩
    · have hf : firstL l = none := by unfold firstL; rw [if_neg (fun h => hp h.2)]
      rw [firstV_none hf]
      rw [decide_eq_false hp] at HPX
      generalize wireL (cutL l) = WL at WO HPX ⊢
      generalize cutL l = r at C WO ⊢
      clear hr hR hpre hp hf
      go_enter Tryz.func96, Tryz.ntmps96
      go_upto_region 1 with fail
      generalize w.alloc (.cells #[.int .i64 0, .string ⟨#[]⟩, .int .i64 0, .string ⟨#[]⟩, .string ⟨#[]⟩] 30) = W1 at X0 BL ⊢
      go_wp2_with (first
        | (go_at_call 133; (with_reducible refine (C.out _).mono ?_); rintro y w2 ⟨rfl, hb2⟩; have B2 := hide hb2; have WX := hide (WO.out w2 (KK.out _ (BL.out.trans (hb2.mono BL.out.size)))); clear hb2)
        | (go_at_call 66; (with_reducible refine WX.out.mono ?_); rintro y w3 ⟨rfl, hb3⟩; have B3 := hide (B2.out.trans (hb3.mono B2.out.size)); have X3 := hide (X0.out.below B3.out X0.out.lt); have t0 : w3.cell? ⟨w.heap.size, 0, none⟩ = some (.int .i64 0) := X3.out.cell 0; have t1 : w3.cell? ⟨w.heap.size, 1, none⟩ = some (.string ⟨#[]⟩) := X3.out.cell 1; have t2 : w3.cell? ⟨w.heap.size, 2, none⟩ = some (.int .i64 0) := X3.out.cell 2; have t3 : w3.cell? ⟨w.heap.size, 3, none⟩ = some (.string ⟨#[]⟩) := X3.out.cell 3; have t4 : w3.cell? ⟨w.heap.size, 4, none⟩ = some (.string ⟨#[]⟩) := X3.out.cell 4; have u0 : w3.frozen? ⟨w.heap.size, 0, none⟩ = false := X3.out.free 0; have u1 : w3.frozen? ⟨w.heap.size, 1, none⟩ = false := X3.out.free 1; have u2 : w3.frozen? ⟨w.heap.size, 2, none⟩ = false := X3.out.free 2; have u3 : w3.frozen? ⟨w.heap.size, 3, none⟩ = false := X3.out.free 3; have u4 : w3.frozen? ⟨w.heap.size, 4, none⟩ = false := X3.out.free 4; clear hb3)
        | (go_at_call 134; (with_reducible refine (HPX.out _).mono ?_); rintro y w4 ⟨rfl, hw4⟩; obtain rfl := hw4.symm))
      have TF := stir5 w3 w.heap.size (.int .i64 0) (.string ⟨#[]⟩) (.int .i64 0) (.string ⟨#[]⟩) (.string ⟨#[]⟩)
      have X5 := HasR.five X3.out (.int .i64 0) (.string ⟨#[]⟩) (.int .i64 0) (.string ⟨#[]⟩) (.string ⟨#[]⟩)
      generalize ((((w3.setCell ⟨w.heap.size, 0, none⟩ (.int .i64 0)).setCell ⟨w.heap.size, 1, none⟩ (.string ⟨#[]⟩)).setCell ⟨w.heap.size, 2, none⟩ (.int .i64 0)).setCell ⟨w.heap.size, 3, none⟩ (.string ⟨#[]⟩)).setCell ⟨w.heap.size, 4, none⟩ (.string ⟨#[]⟩) = w4 at TF X5 ⊢
      have z0 := X5.cell 0
      have z1 := X5.cell 1
      have z2 := X5.cell 2
      have z3 := X5.cell 3
      have z4 := X5.cell 4
      simp at z0 z1 z2 z3 z4
      have BW := BL.out.trans (B3.out.mono BL.out.size)
      refine bodyPost_ret (v := .tuple #[.agg #[.int .i64 0, .string ⟨#[]⟩, .int .i64 0, .string ⟨#[]⟩, .string ⟨#[]⟩], .int .i64 0]) (by simp [results, Tryz.results96, go_sem, z0, z1, z2, z3, z4]) rfl ⟨rfl, BW.trans (TF.below BW.size (fun j hj => by simp at hj; omega))⟩
end Go.Proofs.YtkbaalenbpgheaaGreatDoor

/- Parse: the record of which just these bytes are told. -/
namespace Go.Proofs.YtkbaalenbpgheaaGreatDoor
open Go.RowKit
attribute [local go_sem ↓] Go.wp_at_zero Go.wp_at_succ
/-- The record of which just these bytes are told. -/
def parseL (l : List UInt8) : Option Rec := match firstL l with
  | some r => if (wireL r).length = l.length then some r else none
  | none => none
theorem parseL_iff {l : List UInt8} {r : Rec} : parseL l = some r ↔ RightR r ∧ l = wireL r := by
  constructor
  · intro h
    unfold parseL at h
    cases hf : firstL l with
    | none => rw [hf] at h; cases h
    | some r' =>
      rw [hf] at h
      simp only at h
      split at h
      · rename_i hl
        obtain rfl := Option.some.inj h
        obtain ⟨hR, more, hm⟩ := first_some hf
        refine ⟨hR, ?_⟩
        have := congrArg List.length hm
        rw [List.length_append] at this
        have h0 : more = [] := List.eq_nil_of_length_eq_zero (by omega)
        rw [hm, h0, List.append_nil]
      · cases h
  · rintro ⟨hR, h⟩
    have hf := first_wire hR []
    rw [List.append_nil, ← h] at hf
    unfold parseL
    rw [hf]
    exact if_pos (congrArg List.length h.symm)
def parseV (l : List UInt8) : Value := match parseL l with
  | some r => .tuple #[recV r, .nilIface]
  | none => .tuple #[.agg #[.int .i64 0, .string ⟨#[]⟩, .int .i64 0, .string ⟨#[]⟩, .string ⟨#[]⟩], .iface 56 (.int .i64 3)]
theorem parseV_some {l : List UInt8} {r : Rec} (h : parseL l = some r) : parseV l = .tuple #[recV r, .nilIface] := by unfold parseV; rw [h]
theorem parseV_none {l : List UInt8} (h : parseL l = none) : parseV l = .tuple #[.agg #[.int .i64 0, .string ⟨#[]⟩, .int .i64 0, .string ⟨#[]⟩, .string ⟨#[]⟩], .iface 56 (.int .i64 3)] := by unfold parseV; rw [h]
set_option maxRecDepth 100000 in
set_option maxHeartbeats 4000000 in
theorem parse_any (l : List UInt8) (w : World) (hK : TabK w) : Calls Tryz.prog 67 #[.string (tx l)] w fun x w' => x = .returned (parseV l) ∧ Below w.heap.size w w' := by
  have bel : Below w.heap.size w (w.alloc (.cells #[.int .i64 0, .string ⟨#[]⟩, .int .i64 0, .string ⟨#[]⟩, .string ⟨#[]⟩] 30)) := (Below.refl _ w).alloc (Nat.le_refl _) _
  have X0 := hide (HasR.new w 30 #[.int .i64 0, .string ⟨#[]⟩, .int .i64 0, .string ⟨#[]⟩, .string ⟨#[]⟩])
  have BL := hide bel
  have KK := hide (fun wx (hb : Below w.heap.size w wx) => hK.below hb hK.lt)
  have F0 := fun wx (hk : TabK wx) => first_any l wx hk
  have hsz : (tx l).size = l.length := rfl
  clear bel hK
  cases hf : firstL l with
  | none =>
    have hp : parseL l = none := by unfold parseL; rw [hf]
    rw [parseV_none hp]
    rw [firstV_none hf] at F0
    have F := hide F0
    clear F0 hf hp
    go_enter Tryz.func67, Tryz.ntmps67
    go_upto_region 1 with fail
    generalize w.alloc (.cells #[.int .i64 0, .string ⟨#[]⟩, .int .i64 0, .string ⟨#[]⟩, .string ⟨#[]⟩] 30) = W1 at X0 BL ⊢
    have FX := hide (F.out W1 (KK.out _ BL.out))
    go_upto_region 2 with (go_at_call 96; (with_reducible refine FX.out.mono ?_); rintro y w1 ⟨rfl, hb1⟩; have B1 := hide hb1; clear hb1)
    have B2 := hide (B1.out.alloc B1.out.size (.cells #[.int .i64 0, .string ⟨#[]⟩, .int .i64 0, .string ⟨#[]⟩, .string ⟨#[]⟩] 30))
    have X3 := hide (X0.out.below B2.out X0.out.lt)
    have XR := hide (HasR.new w1 30 #[.int .i64 0, .string ⟨#[]⟩, .int .i64 0, .string ⟨#[]⟩, .string ⟨#[]⟩])
    generalize w1.alloc (.cells #[.int .i64 0, .string ⟨#[]⟩, .int .i64 0, .string ⟨#[]⟩, .string ⟨#[]⟩] 30) = w2 at B2 X3 XR ⊢
    have t0 : w2.cell? ⟨w.heap.size, 0, none⟩ = some (.int .i64 0) := X3.out.cell 0
    have t1 : w2.cell? ⟨w.heap.size, 1, none⟩ = some (.string ⟨#[]⟩) := X3.out.cell 1
    have t2 : w2.cell? ⟨w.heap.size, 2, none⟩ = some (.int .i64 0) := X3.out.cell 2
    have t3 : w2.cell? ⟨w.heap.size, 3, none⟩ = some (.string ⟨#[]⟩) := X3.out.cell 3
    have t4 : w2.cell? ⟨w.heap.size, 4, none⟩ = some (.string ⟨#[]⟩) := X3.out.cell 4
    have u0 : w2.frozen? ⟨w.heap.size, 0, none⟩ = false := X3.out.free 0
    have u1 : w2.frozen? ⟨w.heap.size, 1, none⟩ = false := X3.out.free 1
    have u2 : w2.frozen? ⟨w.heap.size, 2, none⟩ = false := X3.out.free 2
    have u3 : w2.frozen? ⟨w.heap.size, 3, none⟩ = false := X3.out.free 3
    have u4 : w2.frozen? ⟨w.heap.size, 4, none⟩ = false := X3.out.free 4
    go_wp2
    have TF := stir5 w2 w.heap.size (.int .i64 0) (.string ⟨#[]⟩) (.int .i64 0) (.string ⟨#[]⟩) (.string ⟨#[]⟩)
    have X5 := HasR.five X3.out (.int .i64 0) (.string ⟨#[]⟩) (.int .i64 0) (.string ⟨#[]⟩) (.string ⟨#[]⟩)
    generalize ((((w2.setCell ⟨w.heap.size, 0, none⟩ (.int .i64 0)).setCell ⟨w.heap.size, 1, none⟩ (.string ⟨#[]⟩)).setCell ⟨w.heap.size, 2, none⟩ (.int .i64 0)).setCell ⟨w.heap.size, 3, none⟩ (.string ⟨#[]⟩)).setCell ⟨w.heap.size, 4, none⟩ (.string ⟨#[]⟩) = w6 at TF X5 ⊢
    have z0 := X5.cell 0
    have z1 := X5.cell 1
    have z2 := X5.cell 2
    have z3 := X5.cell 3
    have z4 := X5.cell 4
    simp at z0 z1 z2 z3 z4
    have BW := BL.out.trans (B2.out.mono BL.out.size)
    refine bodyPost_ret (v := .tuple #[.agg #[.int .i64 0, .string ⟨#[]⟩, .int .i64 0, .string ⟨#[]⟩, .string ⟨#[]⟩], .iface 56 (.int .i64 3)]) (by simp [results, Tryz.results67, go_sem, z0, z1, z2, z3, z4]) rfl ⟨rfl, BW.trans (TF.below BW.size (fun j hj => by simp at hj; omega))⟩
  | some r =>
    rw [firstV_some hf] at F0
    unfold recV at F0
    have hpos := wireL_ne r
    have hle : (wireL r).length ≤ l.length := by
      obtain ⟨_, more, hm⟩ := first_some hf
      rw [hm, List.length_append]; omega
    by_cases hl : (wireL r).length = l.length
    · have hp : parseL l = some r := by unfold parseL; rw [hf]; exact if_pos hl
      rw [parseV_some hp]
      unfold recV
      rw [hl] at F0 hpos
      have F := hide F0
      have n0 : ((l.length : Int) == 0) = false := by rw [beq_eq_false_iff_ne]; omega
      have n1 : ¬ (l.length : Int) = 0 := by omega
      clear F0 hf hp hl hle hpos
      go_enter Tryz.func67, Tryz.ntmps67
      go_upto_region 1 with fail
      generalize w.alloc (.cells #[.int .i64 0, .string ⟨#[]⟩, .int .i64 0, .string ⟨#[]⟩, .string ⟨#[]⟩] 30) = W1 at X0 BL ⊢
      have FX := hide (F.out W1 (KK.out _ BL.out))
      go_upto_region 2 with (go_at_call 96; (with_reducible refine FX.out.mono ?_); rintro y w1 ⟨rfl, hb1⟩; have B1 := hide hb1; clear hb1)
      have B2 := hide (B1.out.alloc B1.out.size (.cells #[.int .i64 (r.q : Int), .string r.s, .int .i64 (r.g : Int), .string r.p, .string r.d] 30))
      have X3 := hide (X0.out.below B2.out X0.out.lt)
      have XR := hide (HasR.new w1 30 #[.int .i64 (r.q : Int), .string r.s, .int .i64 (r.g : Int), .string r.p, .string r.d])
      generalize w1.alloc (.cells #[.int .i64 (r.q : Int), .string r.s, .int .i64 (r.g : Int), .string r.p, .string r.d] 30) = w2 at B2 X3 XR ⊢
      have t0 : w2.cell? ⟨w.heap.size, 0, none⟩ = some (.int .i64 0) := X3.out.cell 0
      have t1 : w2.cell? ⟨w.heap.size, 1, none⟩ = some (.string ⟨#[]⟩) := X3.out.cell 1
      have t2 : w2.cell? ⟨w.heap.size, 2, none⟩ = some (.int .i64 0) := X3.out.cell 2
      have t3 : w2.cell? ⟨w.heap.size, 3, none⟩ = some (.string ⟨#[]⟩) := X3.out.cell 3
      have t4 : w2.cell? ⟨w.heap.size, 4, none⟩ = some (.string ⟨#[]⟩) := X3.out.cell 4
      have u0 : w2.frozen? ⟨w.heap.size, 0, none⟩ = false := X3.out.free 0
      have u1 : w2.frozen? ⟨w.heap.size, 1, none⟩ = false := X3.out.free 1
      have u2 : w2.frozen? ⟨w.heap.size, 2, none⟩ = false := X3.out.free 2
      have u3 : w2.frozen? ⟨w.heap.size, 3, none⟩ = false := X3.out.free 3
      have u4 : w2.frozen? ⟨w.heap.size, 4, none⟩ = false := X3.out.free 4
      have r0 : w2.cell? ⟨w1.heap.size, 0, none⟩ = some (.int .i64 (r.q : Int)) := XR.out.cell 0
      have r1 : w2.cell? ⟨w1.heap.size, 1, none⟩ = some (.string r.s) := XR.out.cell 1
      have r2 : w2.cell? ⟨w1.heap.size, 2, none⟩ = some (.int .i64 (r.g : Int)) := XR.out.cell 2
      have r3 : w2.cell? ⟨w1.heap.size, 3, none⟩ = some (.string r.p) := XR.out.cell 3
      have r4 : w2.cell? ⟨w1.heap.size, 4, none⟩ = some (.string r.d) := XR.out.cell 4
      go_wp2
      have TF := stir5 w2 w.heap.size (.int .i64 (r.q : Int)) (.string r.s) (.int .i64 (r.g : Int)) (.string r.p) (.string r.d)
      have X5 := HasR.five X3.out (.int .i64 (r.q : Int)) (.string r.s) (.int .i64 (r.g : Int)) (.string r.p) (.string r.d)
      generalize ((((w2.setCell ⟨w.heap.size, 0, none⟩ (.int .i64 (r.q : Int))).setCell ⟨w.heap.size, 1, none⟩ (.string r.s)).setCell ⟨w.heap.size, 2, none⟩ (.int .i64 (r.g : Int))).setCell ⟨w.heap.size, 3, none⟩ (.string r.p)).setCell ⟨w.heap.size, 4, none⟩ (.string r.d) = w6 at TF X5 ⊢
      have z0 := X5.cell 0
      have z1 := X5.cell 1
      have z2 := X5.cell 2
      have z3 := X5.cell 3
      have z4 := X5.cell 4
      simp at z0 z1 z2 z3 z4
      have BW := BL.out.trans (B2.out.mono BL.out.size)
      refine bodyPost_ret (v := .tuple #[.agg #[.int .i64 (r.q : Int), .string r.s, .int .i64 (r.g : Int), .string r.p, .string r.d], .nilIface]) (by simp [results, Tryz.results67, go_sem, z0, z1, z2, z3, z4]) rfl ⟨rfl, BW.trans (TF.below BW.size (fun j hj => by simp at hj; omega))⟩
    · have hp : parseL l = none := by unfold parseL; rw [hf]; exact if_neg hl
      rw [parseV_none hp]
      have n0 : (((wireL r).length : Int) == 0) = false := by rw [beq_eq_false_iff_ne]; omega
      have n1 : ¬ ((wireL r).length : Int) = 0 := by omega
      have n2 : (((wireL r).length : Int) != (l.length : Int)) = true := by simp [bne]; omega
      have n3 : ¬ ((wireL r).length : Int) = (l.length : Int) := by omega
      generalize (wireL r).length = n at F0 n0 n1 n2 n3
      have F := hide F0
      clear F0 hf hp hl hle hpos
      go_enter Tryz.func67, Tryz.ntmps67
      go_upto_region 1 with fail
      generalize w.alloc (.cells #[.int .i64 0, .string ⟨#[]⟩, .int .i64 0, .string ⟨#[]⟩, .string ⟨#[]⟩] 30) = W1 at X0 BL ⊢
      have FX := hide (F.out W1 (KK.out _ BL.out))
      go_upto_region 2 with (go_at_call 96; (with_reducible refine FX.out.mono ?_); rintro y w1 ⟨rfl, hb1⟩; have B1 := hide hb1; clear hb1)
      have B2 := hide (B1.out.alloc B1.out.size (.cells #[.int .i64 (r.q : Int), .string r.s, .int .i64 (r.g : Int), .string r.p, .string r.d] 30))
      have X3 := hide (X0.out.below B2.out X0.out.lt)
      have XR := hide (HasR.new w1 30 #[.int .i64 (r.q : Int), .string r.s, .int .i64 (r.g : Int), .string r.p, .string r.d])
      generalize w1.alloc (.cells #[.int .i64 (r.q : Int), .string r.s, .int .i64 (r.g : Int), .string r.p, .string r.d] 30) = w2 at B2 X3 XR ⊢
      have t0 : w2.cell? ⟨w.heap.size, 0, none⟩ = some (.int .i64 0) := X3.out.cell 0
      have t1 : w2.cell? ⟨w.heap.size, 1, none⟩ = some (.string ⟨#[]⟩) := X3.out.cell 1
      have t2 : w2.cell? ⟨w.heap.size, 2, none⟩ = some (.int .i64 0) := X3.out.cell 2
      have t3 : w2.cell? ⟨w.heap.size, 3, none⟩ = some (.string ⟨#[]⟩) := X3.out.cell 3
      have t4 : w2.cell? ⟨w.heap.size, 4, none⟩ = some (.string ⟨#[]⟩) := X3.out.cell 4
      have u0 : w2.frozen? ⟨w.heap.size, 0, none⟩ = false := X3.out.free 0
      have u1 : w2.frozen? ⟨w.heap.size, 1, none⟩ = false := X3.out.free 1
      have u2 : w2.frozen? ⟨w.heap.size, 2, none⟩ = false := X3.out.free 2
      have u3 : w2.frozen? ⟨w.heap.size, 3, none⟩ = false := X3.out.free 3
      have u4 : w2.frozen? ⟨w.heap.size, 4, none⟩ = false := X3.out.free 4
      go_wp2
      have TF := stir5 w2 w.heap.size (.int .i64 0) (.string ⟨#[]⟩) (.int .i64 0) (.string ⟨#[]⟩) (.string ⟨#[]⟩)
      have X5 := HasR.five X3.out (.int .i64 0) (.string ⟨#[]⟩) (.int .i64 0) (.string ⟨#[]⟩) (.string ⟨#[]⟩)
      generalize ((((w2.setCell ⟨w.heap.size, 0, none⟩ (.int .i64 0)).setCell ⟨w.heap.size, 1, none⟩ (.string ⟨#[]⟩)).setCell ⟨w.heap.size, 2, none⟩ (.int .i64 0)).setCell ⟨w.heap.size, 3, none⟩ (.string ⟨#[]⟩)).setCell ⟨w.heap.size, 4, none⟩ (.string ⟨#[]⟩) = w6 at TF X5 ⊢
      have z0 := X5.cell 0
      have z1 := X5.cell 1
      have z2 := X5.cell 2
      have z3 := X5.cell 3
      have z4 := X5.cell 4
      simp at z0 z1 z2 z3 z4
      have BW := BL.out.trans (B2.out.mono BL.out.size)
      refine bodyPost_ret (v := .tuple #[.agg #[.int .i64 0, .string ⟨#[]⟩, .int .i64 0, .string ⟨#[]⟩, .string ⟨#[]⟩], .iface 56 (.int .i64 3)]) (by simp [results, Tryz.results67, go_sem, z0, z1, z2, z3, z4]) rfl ⟨rfl, BW.trans (TF.below BW.size (fun j hj => by simp at hj; omega))⟩
end Go.Proofs.YtkbaalenbpgheaaGreatDoor
