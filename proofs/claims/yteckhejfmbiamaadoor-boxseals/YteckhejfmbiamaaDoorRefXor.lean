/- The document's own text taken together with blocks comes to the same bytes. -/
import Derived.Test.YteckhejfmbiamaaDoorRefBlock
namespace Go.Proofs.YteckhejfmbiamaaDoor
open Go.RowKit
attribute [local go_sem ↓] Go.wp_at_zero Go.wp_at_succ
/-- The blocks from number 1 on, m of them, one behind the other. -/
def allTo (key nonce : List UInt8) : Nat → List UInt8
  | 0 => []
  | m + 1 => allTo key nonce m ++ blockL key (BitVec.ofNat 32 (1 + m)) nonce
theorem allTo_succ (key nonce : List UInt8) (m : Nat) : allTo key nonce (m + 1) = allTo key nonce m ++ blockL key (BitVec.ofNat 32 (1 + m)) nonce := rfl
theorem allTo_len (key nonce : List UInt8) (m : Nat) : (allTo key nonce m).length = 64 * m := by
  induction m with
  | zero => rfl
  | succ m ih => rw [allTo, List.length_append, ih, blockL_len]; omega
theorem allTo_at (key nonce : List UInt8) (m i : Nat) (h : i < 64 * m) : (allTo key nonce m).getD i 0 = keyAt key nonce i := by
  induction m with
  | zero => omega
  | succ m ih =>
    have hl := allTo_len key nonce m
    rw [allTo, List.getD_eq_getElem?_getD]
    by_cases h2 : i < 64 * m
    · rw [List.getElem?_append_left (by omega), ← List.getD_eq_getElem?_getD, ih h2]
    · rw [List.getElem?_append_right (by omega), ← List.getD_eq_getElem?_getD, hl]
      unfold keyAt
      have e1 : i / 64 = m := by omega
      have e2 : i % 64 = i - 64 * m := by omega
      rw [e1, e2]
set_option maxRecDepth 100000 in
set_option maxHeartbeats 400000 in
theorem refXor_bad (key nonce s : ByteArray) (w : World) (hb : ¬ (key.size = 32 ∧ nonce.size = 12)) :
    Calls Tryd.prog 21 #[.string key, .string nonce, .string s] w fun e w' => e = .returned (.tuple #[.string ByteArray.empty, .int .i64 1]) ∧ w' = w := by
  have q := refBlock_bad key nonce 1 w (fun h => hb ⟨h.1, h.2.1⟩)
  have Q1 := hide q
  clear q
  go_enter Tryd.func21, Tryd.ntmps21
  go_wp2
  go_loopw [8, 9] (fun a k wr => a = .string ByteArray.empty ∧ k = .int .i64 1 ∧ wr = w) (fun _ _ _ => 0)
  case atStart => exact ⟨rfl, rfl, rfl⟩
  case round =>
    obtain ⟨rfl, rfl, hw⟩ := hrel
    subst hw
    by_cases h0 : 0 < s.size
    · have d1 : decide ((0 : Int) < (s.size : Int)) = true := decide_eq_true (by omega)
      go_wp2_with (go_at_call 18; refine Q1.out.mono ?_; rintro e w1 ⟨rfl, rfl⟩)
      go_ret2
      exact ⟨rfl, rfl⟩
    · have d1 : decide ((0 : Int) < (s.size : Int)) = false := decide_eq_false (by omega)
      go_wp2_with (go_at_call 18; refine Q1.out.mono ?_; rintro e w1 ⟨rfl, rfl⟩)
      go_ret2
      exact ⟨rfl, rfl⟩
set_option maxRecDepth 100000 in
set_option maxHeartbeats 1000000 in
theorem refXor_ok (key nonce s : ByteArray) (w : World) (hk : key.size = 32) (hn : nonce.size = 12) (hs : s.size ≤ 100000) :
    Calls Tryd.prog 21 #[.string key, .string nonce, .string s] w fun e w' => e = .returned (.tuple #[.string ⟨(xorL key.data.toList nonce.data.toList s.data.toList).toArray⟩, .int .i64 0]) ∧ Below w.heap.size w w' := by
  have Q1 := hide (fun m (hm : m ≤ 100000) wx => refBlock_ok key nonce (1 + m) wx hk hn (by omega))
  have P1 := hide (fun m i h => allTo_at key.data.toList nonce.data.toList m i h)
  have P2 := hide (fun m => allTo_len key.data.toList nonce.data.toList m)
  have P3 := hide (fun m => allTo_succ key.data.toList nonce.data.toList m)
  have P4 := hide (fun m => blockL_len key.data.toList (BitVec.ofNat 32 (1 + m)) nonce.data.toList)
  have ls : s.data.toList.length = s.size := rfl
  go_enter Tryd.func21, Tryd.ntmps21
  go_wp2
  go_loopw [8, 9] (fun a k wr => ∃ m : Nat, 64 * m ≤ s.size + 64 ∧ k = .int .i64 ((1 + m : Nat) : Int) ∧ a = .string ⟨(allTo key.data.toList nonce.data.toList m).toArray⟩ ∧ Below w.heap.size w wr)
    (fun _ k _ => s.size + 200 - 64 * (intOf k).toNat)
  case atStart => exact ⟨0, by omega, rfl, rfl, Below.refl _ _⟩
  case round =>
    obtain ⟨m, hm, rfl, rfl, hb⟩ := hrel
    have hbs := hb.size
    have q1 := Q1.out m (by omega)
    have p3 := P3.out m
    have p4 := P4.out m
    have p1 := hide (fun i h => P1.out m i h)
    have hsz : (⟨(allTo key.data.toList nonce.data.toList m).toArray⟩ : ByteArray).size = 64 * m := P2.out m
    generalize blockL key.data.toList (BitVec.ofNat 32 (1 + m)) nonce.data.toList = O at q1 p3 p4
    have hso : (⟨O.toArray⟩ : ByteArray).size = 64 := p4
    have hst : Value.string ((⟨(allTo key.data.toList nonce.data.toList m).toArray⟩ : ByteArray) ++ ⟨O.toArray⟩) = .string ⟨(allTo key.data.toList nonce.data.toList (m + 1)).toArray⟩ := by
      rw [p3, bytes_app]; simp
    have hS2 : (⟨(allTo key.data.toList nonce.data.toList m).toArray⟩ : ByteArray).data.toList = allTo key.data.toList nonce.data.toList m := by simp
    generalize (⟨(allTo key.data.toList nonce.data.toList m).toArray⟩ : ByteArray) = S at hsz hst hS2 ⊢
    generalize (⟨O.toArray⟩ : ByteArray) = OO at q1 hst hso
    have HST := hide hst
    have HS2 := hide hS2
    have q1' := hide q1
    clear q1 p3 p4 hst hS2
    by_cases h0 : 64 * m < s.size
    · have d1 : decide (64 * (m : Int) < (s.size : Int)) = true := decide_eq_true (by omega)
      go_wp2_with (go_at_call 18; refine (q1'.out _).mono ?_; rintro e w1 ⟨rfl, hb1⟩)
      go_roundw
      case rel =>
        first
          | exact ⟨m + 1, by omega, by go_num, by rw [← HST.out], hb.trans (hb1.mono hbs)⟩
          | ((repeat apply Exists.intro); exact ⟨⟨m + 1, by omega, by go_num, by rw [← HST.out], hb.trans (hb1.mono hbs)⟩, rfl⟩)
      case measure => simp [intOf]; omega
    · have d1 : decide (64 * (m : Int) < (s.size : Int)) = false := decide_eq_false (by omega)
      by_cases hm0 : m = 0
      · subst hm0
        go_wp2_with (go_at_call 18; refine (q1'.out _).mono ?_; rintro e w1 ⟨rfl, hb1⟩)
        go_roundw
        case rel =>
          first
            | exact ⟨1, by omega, by go_num, by rw [← HST.out], hb.trans (hb1.mono hbs)⟩
            | ((repeat apply Exists.intro); exact ⟨⟨1, by omega, by go_num, by rw [← HST.out], hb.trans (hb1.mono hbs)⟩, rfl⟩)
        case measure => simp [intOf]
      · have d2 : (1 + (m : Int) == 1) = false := by rw [beq_eq_false_iff_ne]; omega
        clear q1' HST hso
        go_wp2_with ((with_reducible refine conv_in s ?_ ?_); rfl; intro cap w1 hr1 hg1 hz1)
        have hb1 : Below w.heap.size w w1 := hb.trans ((Below.refl _ wr).grown hg1 hbs (by intro k hk; simp at hk))
        have hgl : w.heap.size ≤ wr.heap.size := hbs
        clear hg1 hz1 hb
        go_loopw [42] (fun i wx => ∃ j : Nat, j ≤ s.size ∧ i = .int .i64 j ∧ BR wx wr.heap.size 5 wr.heap.size s.size cap (bytesV (xorTo key.data.toList nonce.data.toList s.data.toList j)) ∧ Below w.heap.size w wx)
          (fun i _ => s.size - (intOf i).toNat)
        case atStart => exact ⟨0, by omega, rfl, by rw [xorTo_zero]; exact hr1, hb1⟩
        case round =>
          clear hr1 hb1
          obtain ⟨j, hj, rfl, hr, hb⟩ := hrel
          by_cases hj' : j < s.size
          · have f1 := hr.free j hj'
            have c1 := hr.cellB j hj'
            rw [xorTo_at _ _ _ _ _ (by omega) (Nat.le_refl _)] at c1
            have c2 := byte_get S j (by omega)
            have hS := xorTo_succ key.data.toList nonce.data.toList s.data.toList j
            rw [← p1.out j (by omega), ← HS2.out] at hS
            have i1 : (j : Int) < (s.size : Int) := by omega
            have i2 : (j : Int) < 64 * (m : Int) := by omega
            have HS := hide hS
            have HR := hide hr
            have HB := hide hb
            clear hr hb hS p1 HS2
            generalize s.data.toList.getD j 0 = x at c1 HS
            generalize S.data.toList.getD j 0 = y at c2 HS
            go_wp2
            go_region
            all_goals (
              go_wp2
              rw [B_xor]
              go_roundw
              case rel =>
                first
                  | exact ⟨j + 1, by omega, by go_num, by rw [← HS.out]; exact (HR.out.setB j _).drew, (HB.out.setCell hgl _).drew⟩
                  | ((repeat apply Exists.intro); exact ⟨⟨j + 1, by omega, by go_num, by rw [← HS.out]; exact (HR.out.setB j _).drew, (HB.out.setCell hgl _).drew⟩, rfl⟩)
              case measure => simp [intOf]; omega)
          · obtain rfl : j = s.size := by omega
            have x3 : ¬ (s.size : Int) < (s.size : Int) := by omega
            rw [xorTo_more _ _ _ _ (by omega)] at hr
            generalize hX : xorL key.data.toList nonce.data.toList s.data.toList = X at hr
            have HX := hide hX
            clear hX Q1 P1 P2 P3 P4 p1
            go_wp2_with ((with_reducible refine conv_out _ s.size cap X ?_ hr ?_); rfl)
            go_ret2
            exact ⟨by rw [HX.out]; rfl, hb⟩
end Go.Proofs.YteckhejfmbiamaaDoor
