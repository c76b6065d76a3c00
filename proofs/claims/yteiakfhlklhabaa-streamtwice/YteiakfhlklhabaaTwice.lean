/- Once and once again: what taking a text together with blocks comes to, as plain mathematics of bytes; and the law's own walk. -/
import Derived.Test.YteiakfhlklhabaaKnown
namespace Go.Proofs.Yteiakfhlklhabaa
open Go.RowKit
attribute [local go_sem ↓] Go.wp_at_zero Go.wp_at_succ
theorem xorL_len (key nonce l : List UInt8) : (xorL key nonce l).length = l.length := xorTo_len _ _ _ _
theorem xorL_at (key nonce l : List UInt8) (i : Nat) (h : i < l.length) : (xorL key nonce l).getD i 0 = l.getD i 0 ^^^ keyAt key nonce i := by
  unfold xorL xorTo
  simp [h]
theorem u8_cancel (x k : UInt8) : x ^^^ k ^^^ k = x := by
  rw [UInt8.xor_assoc, UInt8.xor_self, UInt8.xor_zero]
theorem u8_meet (x y k : UInt8) : (x ^^^ k) ^^^ (y ^^^ k) = x ^^^ y := by
  rw [UInt8.xor_comm y k, ← UInt8.xor_assoc, u8_cancel]
theorem xorL_twice (key nonce l : List UInt8) : xorL key nonce (xorL key nonce l) = l := by
  apply List.ext_getElem
  · rw [xorL_len, xorL_len]
  · intro i h1 h2
    have e1 := xorL_at key nonce (xorL key nonce l) i (by rw [xorL_len]; exact h2)
    rw [xorL_at key nonce l i h2, u8_cancel] at e1
    simpa [List.getD_eq_getElem?_getD, h1, h2] using e1
theorem xorL_take (key nonce l : List UInt8) (c : Nat) (h : c ≤ l.length) : xorL key nonce (l.take c) = (xorL key nonce l).take c := by
  have hl : (l.take c).length = c := by rw [List.length_take]; omega
  apply List.ext_getElem
  · rw [xorL_len, List.length_take, List.length_take, xorL_len]
  · intro i h1 h2
    have h3 : i < (l.take c).length := by rw [xorL_len] at h1; exact h1
    have h4 : i < l.length := by omega
    have e1 := xorL_at key nonce (l.take c) i h3
    have e2 := xorL_at key nonce l i h4
    have e3 : (l.take c).getD i 0 = l.getD i 0 := by
      rw [List.getD_eq_getElem?_getD, List.getElem?_take_of_lt (by omega), ← List.getD_eq_getElem?_getD]
    rw [e3, ← e2] at e1
    rw [List.getElem_take]
    have h5 : i < (xorL key nonce l).length := by rw [xorL_len]; exact h4
    simpa [List.getD_eq_getElem?_getD, h1, h5] using e1
set_option maxRecDepth 100000 in
set_option maxHeartbeats 400000 in
theorem pick_any (a : Int) (n : Nat) (h0 : 0 < n) (hn : n ≤ 1000000) (w : World) :
    Calls Try.prog 6 #[.int .i64 a, .int .i64 n] w fun e w' => ∃ c : Nat, c < n ∧ e = .returned (.int .i64 c) ∧ w' = w := by
  have x1 : IntKind.u64.wrap (n : Int) = (n : Int) := by rw [IntKind.wrap_u64]; omega
  have x0 : 0 ≤ IntKind.u64.wrap a := by rw [IntKind.wrap_u64]; omega
  have x00 : IntKind.u64.wrap a < 18446744073709551616 := by rw [IntKind.wrap_u64]; omega
  generalize hu : IntKind.u64.wrap a = u at x0 x00
  have x2 : 0 ≤ u % (n : Int) := Int.emod_nonneg _ (by omega)
  have x3 : u % (n : Int) < (n : Int) := Int.emod_lt_of_pos _ (by omega)
  obtain ⟨c, hc⟩ : ∃ c : Nat, u % (n : Int) = (c : Int) := ⟨(u % (n : Int)).toNat, by omega⟩
  have x4 : IntKind.i64.wrap (c : Int) = (c : Int) := by rw [IntKind.wrap_i64]; omega
  go_enter Try.func6, Try.ntmps6
  go_wp2
  go_ret
  exact ⟨c, by omega, ret_val rfl, rfl⟩
theorem byte_get (s : ByteArray) (k : Nat) (h : k < s.size) (w : World) : (Instr.index 9 (.string s) (.int .i64 (k : Int))).run Try.prog w = .ok (.int .u8 (((s.data.toList.getD k 0).toNat : Nat) : Int)) w := by
  rw [byte_at s k h w]
  have h2 : k < s.data.size := h
  have e : s[k] = s.data.toList.getD k 0 := by
    rw [List.getD_eq_getElem?_getD, Array.getElem?_toList, Array.getElem?_eq_getElem h2]; rfl
  rw [e]
theorem self_bytes (s : ByteArray) : (⟨s.data.toList.toArray⟩ : ByteArray) = s := by cases s; simp
/-- What taking texts together with one key's blocks gives the law's walk. -/
theorem xor_facts (key nonce s t : ByteArray) (hk : key.size = 32) (hn : nonce.size = 12) (hs : s.size ≤ 300) (ht : t.size ≤ 300) :
    ∃ A B : ByteArray, A.size = s.size ∧ B.size = t.size ∧
      (∀ w, Calls Try.prog 5 #[.string key, .string nonce, .string s] w fun e w' => e = .returned (.tuple #[.string A, .nilIface]) ∧ Below w.heap.size w w') ∧
      (∀ w, Calls Try.prog 5 #[.string key, .string nonce, .string t] w fun e w' => e = .returned (.tuple #[.string B, .nilIface]) ∧ Below w.heap.size w w') ∧
      (∀ w, Calls Try.prog 5 #[.string key, .string nonce, .string A] w fun e w' => e = .returned (.tuple #[.string s, .nilIface]) ∧ Below w.heap.size w w') ∧
      (∀ c, c ≤ s.size → ∀ w, Calls Try.prog 5 #[.string key, .string nonce, .string (s.extract 0 c)] w fun e w' => e = .returned (.tuple #[.string (A.extract 0 c), .nilIface]) ∧ Below w.heap.size w w') ∧
      (∀ i, i < s.size → i < t.size → A.data.toList.getD i 0 ^^^ B.data.toList.getD i 0 = s.data.toList.getD i 0 ^^^ t.data.toList.getD i 0) := by
  have ls : s.data.toList.length = s.size := rfl
  have lt : t.data.toList.length = t.size := rfl
  have hA : (⟨(xorL key.data.toList nonce.data.toList s.data.toList).toArray⟩ : ByteArray).size = s.size := xorL_len key.data.toList nonce.data.toList s.data.toList
  have hB : (⟨(xorL key.data.toList nonce.data.toList t.data.toList).toArray⟩ : ByteArray).size = t.size := xorL_len key.data.toList nonce.data.toList t.data.toList
  refine ⟨_, _, hA, hB, fun w => xor_ok key nonce s w hk hn (by omega), fun w => xor_ok key nonce t w hk hn (by omega), fun w => ?_, fun c hc w => ?_, fun i h1 h2 => ?_⟩
  · have h := xor_ok key nonce ⟨(xorL key.data.toList nonce.data.toList s.data.toList).toArray⟩ w hk hn (by rw [hA]; omega)
    have e : (⟨(xorL key.data.toList nonce.data.toList s.data.toList).toArray⟩ : ByteArray).data.toList = xorL key.data.toList nonce.data.toList s.data.toList := by simp
    rw [e, xorL_twice, self_bytes] at h
    exact h
  · have h := xor_ok key nonce (s.extract 0 c) w hk hn (by rw [ByteArray.size_extract]; omega)
    have e : (s.extract 0 c).data.toList = s.data.toList.take c := by rw [Lib.extract_data]; simp
    have e2 : (⟨((xorL key.data.toList nonce.data.toList s.data.toList).take c).toArray⟩ : ByteArray) = (⟨(xorL key.data.toList nonce.data.toList s.data.toList).toArray⟩ : ByteArray).extract 0 c := by
      rw [← ext_take, self_bytes]
    rw [e, xorL_take _ _ _ _ (by omega), e2] at h
    exact h
  · show (xorL key.data.toList nonce.data.toList s.data.toList).getD i 0 ^^^ (xorL key.data.toList nonce.data.toList t.data.toList).getD i 0 = _
    rw [xorL_at _ _ _ _ (by omega), xorL_at _ _ _ _ (by omega), u8_meet]
set_option maxRecDepth 100000 in
set_option maxHeartbeats 2000000 in
theorem twice_ok (key nonce s t : ByteArray) (cut : Int) (w : World) (hk : key.size = 32) (hn : nonce.size = 12) (hs : s.size ≤ 300) (ht : t.size ≤ 300) :
    Calls Try.prog 3 #[.string key, .string nonce, .string s, .string t, .int .i64 cut] w fun e w' => e = .returned (.bool true) ∧ Below w.heap.size w w' := by
  obtain ⟨A, B, hA, hB, qs, qt, qA, qc, qx⟩ := xor_facts key nonce s t hk hn hs ht
  have d1 : decide ((40 : Int) < (key.size : Int)) = false := decide_eq_false (by omega)
  have d2 : decide ((40 : Int) < (nonce.size : Int)) = false := decide_eq_false (by omega)
  have d3 : decide ((300 : Int) < (s.size : Int)) = false := decide_eq_false (by omega)
  have d4 : decide ((300 : Int) < (t.size : Int)) = false := decide_eq_false (by omega)
  have QS := hide qs
  have QT := hide qt
  have QA := hide qA
  have QC := hide qc
  have QX := hide qx
  have Q4 := hide streamed_any
  clear qs qt qA qc qx
  go_enter Try.func3, Try.ntmps3
  go_upto_region 12 with (first
    | (go_at_call 4; (with_reducible refine (Q4.out _).mono ?_); rintro e w1 ⟨rfl, hb1⟩)
    | (go_at_call 5; (with_reducible refine (QS.out _).mono ?_); rintro e w2 ⟨rfl, hb2⟩)
    | (go_at_call 5; (with_reducible refine (QT.out _).mono ?_); rintro e w3 ⟨rfl, hb3⟩)
    | (go_at_call 5; (with_reducible refine (QA.out _).mono ?_); rintro e w4 ⟨rfl, hb4⟩))
  have hB4 : Below w.heap.size w w4 := hb1.trans ((hb2.mono hb1.size).trans ((hb3.mono (Nat.le_trans hb1.size hb2.size)).trans (hb4.mono (Nat.le_trans (Nat.le_trans hb1.size hb2.size) hb3.size))))
  clear hb1 hb2 hb3 hb4 d1 d2 d3 d4 QS QT QA Q4
  go_wp2
  go_loopw [17] (fun i wr => ∃ k : Nat, k ≤ s.size ∧ i = .int .i64 k ∧ Below w.heap.size w wr) (fun i _ => s.size - (intOf i).toNat)
  case atStart => exact ⟨0, by omega, rfl, hB4⟩
  case round =>
    clear hB4
    obtain ⟨k, hk', rfl, hb⟩ := hrel
    have hbs := hb.size
    by_cases h12 : k < s.size ∧ k < t.size
    · obtain ⟨h1, h2⟩ := h12
      have t1 : decide ((k : Int) < (s.size : Int)) = true := decide_eq_true (by omega)
      have t2 : decide ((k : Int) < (t.size : Int)) = true := decide_eq_true (by omega)
      have c1 := byte_get A k (by omega)
      have c2 := byte_get B k (by omega)
      have c3 := byte_get s k (by omega)
      have c4 := byte_get t k (by omega)
      have hx := QX.out k h1 h2
      have x1 := B_xor (A.data.toList.getD k 0) (B.data.toList.getD k 0)
      have x2 := B_xor (s.data.toList.getD k 0) (t.data.toList.getD k 0)
      rw [hx] at x1
      generalize s.data.toList.getD k 0 ^^^ t.data.toList.getD k 0 = z at x1 x2
      clear hx
      generalize A.data.toList.getD k 0 = b1 at c1 x1
      generalize B.data.toList.getD k 0 = b2 at c2 x1
      generalize s.data.toList.getD k 0 = b3 at c3 x2
      generalize t.data.toList.getD k 0 = b4 at c4 x2
      have i1 : (k : Int) < (s.size : Int) := by omega
      have i2 : (k : Int) < (t.size : Int) := by omega
      have i0 : (0 : Int) ≤ (k : Int) := by omega
      go_upto_region 15 with fail
      go_cut [114] (fun v wx => v = .bool false ∧ wx = wr.drew)
      case first =>
        go_region
        all_goals (
          go_wp2
          go_meet
          case rel => exact ⟨by first | rfl | (simp only [x1, x2]; simp), rfl⟩)
      case rest =>
        obtain ⟨rfl, rfl⟩ := hcut
        clear c1 c2 c3 c4 x1 x2
        go_wp2
        go_roundw
        case rel =>
          first
            | exact ⟨k + 1, by omega, by go_num, hb.drew⟩
            | ((repeat apply Exists.intro); exact ⟨⟨k + 1, by omega, by go_num, hb.drew⟩, rfl⟩)
        case measure => simp [intOf]; omega
    · have Q6 : Calls Try.prog 6 #[.int .i64 cut, .int .i64 ((s.size : Int) + 1)] wr fun e w' => ∃ c : Nat, c < s.size + 1 ∧ e = .returned (.int .i64 c) ∧ w' = wr := pick_any cut (s.size + 1) (by omega) (by omega) wr
      have H6 := hide Q6
      clear Q6 QX
      by_cases h1 : k < s.size
      · have t1 : decide ((k : Int) < (s.size : Int)) = true := decide_eq_true (by omega)
        have t2 : decide ((k : Int) < (t.size : Int)) = false := decide_eq_false (by omega)
        go_wp2_with (first
          | (go_at_call 6; (with_reducible refine (H6.out).mono ?_); rintro e w5 ⟨c, hc, rfl, rfl⟩; have QC' := hide (QC.out c (by omega)))
          | (go_at_call 5; (with_reducible refine (QC'.out _).mono ?_); rintro e w6 ⟨rfl, hb6⟩))
        go_ret
        exact ⟨rfl, hb.trans (hb6.mono hbs)⟩
      · have t1 : decide ((k : Int) < (s.size : Int)) = false := decide_eq_false (by omega)
        go_wp2_with (first
          | (go_at_call 6; (with_reducible refine (H6.out).mono ?_); rintro e w5 ⟨c, hc, rfl, rfl⟩; have QC' := hide (QC.out c (by omega)))
          | (go_at_call 5; (with_reducible refine (QC'.out _).mono ?_); rintro e w6 ⟨rfl, hb6⟩))
        go_ret
        exact ⟨rfl, hb.trans (hb6.mono hbs)⟩
set_option maxRecDepth 100000 in
set_option maxHeartbeats 1000000 in
theorem twice_bad (key nonce s t : ByteArray) (cut : Int) (w : World) (hk : key.size ≤ 40) (hn : nonce.size ≤ 40) (hs : s.size ≤ 300) (ht : t.size ≤ 300) (hb : ¬ (key.size = 32 ∧ nonce.size = 12)) :
    Calls Try.prog 3 #[.string key, .string nonce, .string s, .string t, .int .i64 cut] w fun e w' => e = .returned (.bool true) ∧ Below w.heap.size w w' := by
  have d1 : decide ((40 : Int) < (key.size : Int)) = false := decide_eq_false (by omega)
  have d2 : decide ((40 : Int) < (nonce.size : Int)) = false := decide_eq_false (by omega)
  have d3 : decide ((300 : Int) < (s.size : Int)) = false := decide_eq_false (by omega)
  have d4 : decide ((300 : Int) < (t.size : Int)) = false := decide_eq_false (by omega)
  have Q4 := hide streamed_any
  have QS := hide (fun wx => xor_bad key nonce s wx hb)
  have QT := hide (fun wx => xor_bad key nonce t wx hb)
  by_cases h1 : key.size = 32
  · have h2 : ¬ nonce.size = 12 := fun h => hb ⟨h1, h⟩
    have e2 : ((nonce.size : Int) != 12) = true := by rw [bne_iff_ne]; omega
    clear hb
    go_enter Try.func3, Try.ntmps3
    go_wp2_with (first
      | (go_at_call 4; (with_reducible refine (Q4.out _).mono ?_); rintro e w1 ⟨rfl, hb1⟩)
      | (go_at_call 5; (with_reducible refine (QS.out _).mono ?_); rintro e w2 ⟨rfl, rfl⟩)
      | (go_at_call 5; (with_reducible refine (QT.out _).mono ?_); rintro e w3 ⟨rfl, rfl⟩))
    go_ret
    exact ⟨rfl, by first | exact hb1 | assumption⟩
  · have e1 : decide ((key.size : Int) = 32) = false := decide_eq_false (by omega)
    clear hb
    go_enter Try.func3, Try.ntmps3
    go_wp2_with (first
      | (go_at_call 4; (with_reducible refine (Q4.out _).mono ?_); rintro e w1 ⟨rfl, hb1⟩)
      | (go_at_call 5; (with_reducible refine (QS.out _).mono ?_); rintro e w2 ⟨rfl, rfl⟩)
      | (go_at_call 5; (with_reducible refine (QT.out _).mono ?_); rintro e w3 ⟨rfl, rfl⟩))
    go_ret
    exact ⟨rfl, by first | exact hb1 | assumption⟩
set_option maxRecDepth 100000 in
set_option maxHeartbeats 1000000 in
theorem twice_any (key nonce s t : ByteArray) (cut : Int) (w : World) :
    Calls Try.prog 3 #[.string key, .string nonce, .string s, .string t, .int .i64 cut] w fun e w' => e = .returned (.bool true) ∧ Below w.heap.size w w' := by
  by_cases h1 : 40 < key.size
  · have d1 : decide ((40 : Int) < (key.size : Int)) = true := decide_eq_true (by omega)
    go_enter Try.func3, Try.ntmps3
    go_wp2
    go_ret
    exact ⟨rfl, Below.refl _ _⟩
  · have d1 : decide ((40 : Int) < (key.size : Int)) = false := decide_eq_false (by omega)
    by_cases h2 : 40 < nonce.size
    · have d2 : decide ((40 : Int) < (nonce.size : Int)) = true := decide_eq_true (by omega)
      go_enter Try.func3, Try.ntmps3
      go_wp2
      go_ret
      exact ⟨rfl, Below.refl _ _⟩
    · have d2 : decide ((40 : Int) < (nonce.size : Int)) = false := decide_eq_false (by omega)
      by_cases h3 : 300 < s.size
      · have d3 : decide ((300 : Int) < (s.size : Int)) = true := decide_eq_true (by omega)
        go_enter Try.func3, Try.ntmps3
        go_wp2
        go_ret
        exact ⟨rfl, Below.refl _ _⟩
      · have d3 : decide ((300 : Int) < (s.size : Int)) = false := decide_eq_false (by omega)
        by_cases h4 : 300 < t.size
        · have d4 : decide ((300 : Int) < (t.size : Int)) = true := decide_eq_true (by omega)
          go_enter Try.func3, Try.ntmps3
          go_wp2
          go_ret
          exact ⟨rfl, Below.refl _ _⟩
        · by_cases hb : key.size = 32 ∧ nonce.size = 12
          · exact twice_ok key nonce s t cut w hb.1 hb.2 (by omega) (by omega)
          · exact twice_bad key nonce s t cut w (by omega) (by omega) (by omega) (by omega) hb
end Go.Proofs.Yteiakfhlklhabaa
