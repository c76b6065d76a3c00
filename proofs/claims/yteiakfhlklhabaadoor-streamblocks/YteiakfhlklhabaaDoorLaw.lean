/- The law's own call: every key, number, nonce and text. -/
import Derived.Test.YteiakfhlklhabaaDoorRefXor
import Derived.Test.YteiakfhlklhabaaDoorBare
namespace Go.Proofs.YteiakfhlklhabaaDoor
open Go.RowKit
set_option maxRecDepth 100000 in
set_option maxHeartbeats 400000 in
theorem long_any (s : ByteArray) (w : World) : Calls Tryd.prog 5 #[.string s] w fun e w' => e = .returned (.bool (decide (60 < s.size))) ∧ w' = w := by
  go_enter Tryd.func5, Tryd.ntmps5
  go_wp2
  go_ret
  exact ⟨ret_val (by simp; omega), rfl⟩
/-- What both blocks are: the text and the document's number of the error. -/
theorem blocks_both (key nonce : ByteArray) (n : Int) (h0 : -9223372036854775808 ≤ n) (h1 : n < 9223372036854775808) :
    ∃ (a : ByteArray) (c : Int) (v : Value), (∀ w, Calls Tryd.prog 15 #[.string key, .int .i64 n, .string nonce] w fun e w' => e = .returned (.tuple #[.string a, .int .i64 c]) ∧ Below w.heap.size w w') ∧
      (∀ w, Calls Tryd.prog 16 #[.string key, .int .i64 n, .string nonce] w fun e w' => e = .returned (.tuple #[.string a, v]) ∧ Below w.heap.size w w') ∧
      (∀ w, TabE w → Calls Tryd.prog 17 #[v, .int .i64 c] w fun e w' => e = .returned (.bool true) ∧ Below w.heap.size w w') := by
  by_cases hb : key.size = 32 ∧ nonce.size = 12 ∧ 0 ≤ n ∧ n < 4294967296
  · obtain ⟨hk, hn, hn0, hn1⟩ := hb
    obtain ⟨m, rfl⟩ : ∃ m : Nat, n = (m : Int) := ⟨n.toNat, by omega⟩
    refine ⟨⟨(blockL key.data.toList (BitVec.ofNat 32 m) nonce.data.toList).toArray⟩, 0, .nilIface, fun w => refBlock_ok key nonce m w hk hn (by omega), fun w => block_ok key nonce m w hk hn (by omega), fun w _ => ?_⟩
    exact (bare_nil w).mono (by rintro e w' ⟨rfl, rfl⟩; exact ⟨rfl, Below.refl _ _⟩)
  · refine ⟨ByteArray.empty, 1, .iface 30 (.int .i64 1), fun w => ?_, fun w => ?_, fun w hE => bare_arg w hE⟩
    · exact (refBlock_bad key nonce n w hb).mono (by rintro e w' ⟨rfl, rfl⟩; exact ⟨rfl, Below.refl _ _⟩)
    · exact (block_bad key nonce n w h0 h1 hb).mono (by rintro e w' ⟨rfl, rfl⟩; exact ⟨rfl, Below.refl _ _⟩)
theorem texts_both (key nonce s : ByteArray) (hs : s.size ≤ 100000) :
    ∃ (a : ByteArray) (c : Int) (v : Value), (∀ w, Calls Tryd.prog 18 #[.string key, .string nonce, .string s] w fun e w' => e = .returned (.tuple #[.string a, .int .i64 c]) ∧ Below w.heap.size w w') ∧
      (∀ w, Calls Tryd.prog 19 #[.string key, .string nonce, .string s] w fun e w' => e = .returned (.tuple #[.string a, v]) ∧ Below w.heap.size w w') ∧
      (∀ w, TabE w → Calls Tryd.prog 17 #[v, .int .i64 c] w fun e w' => e = .returned (.bool true) ∧ Below w.heap.size w w') := by
  by_cases hb : key.size = 32 ∧ nonce.size = 12
  · obtain ⟨hk, hn⟩ := hb
    refine ⟨⟨(xorL key.data.toList nonce.data.toList s.data.toList).toArray⟩, 0, .nilIface, fun w => refXor_ok key nonce s w hk hn hs, fun w => xor_ok key nonce s w hk hn hs, fun w _ => ?_⟩
    exact (bare_nil w).mono (by rintro e w' ⟨rfl, rfl⟩; exact ⟨rfl, Below.refl _ _⟩)
  · refine ⟨ByteArray.empty, 1, .iface 30 (.int .i64 1), fun w => ?_, fun w => ?_, fun w hE => bare_arg w hE⟩
    · exact (refXor_bad key nonce s w hb).mono (by rintro e w' ⟨rfl, rfl⟩; exact ⟨rfl, Below.refl _ _⟩)
    · exact (xor_bad key nonce s w hb).mono (by rintro e w' ⟨rfl, rfl⟩; exact ⟨rfl, Below.refl _ _⟩)
set_option maxRecDepth 100000 in
set_option maxHeartbeats 2000000 in
theorem law_any (key nonce s : ByteArray) (n : Int) (w : World) (h0 : -9223372036854775808 ≤ n) (h1 : n < 9223372036854775808) (hE : TabE w) :
    Calls Tryd.prog 4 #[.string key, .int .i64 n, .string nonce, .string s] w fun e w' => e = .returned (.bool true) ∧ Below w.heap.size w w' := by
  have hl := hE.lt
  by_cases hk : 60 < key.size
  · have k1 := long_any key w
    rw [decide_eq_true hk] at k1
    have K1 := hide k1
    clear k1
    go_enter Tryd.func4, Tryd.ntmps4
    go_wp2_with (go_at_call 5; (with_reducible refine K1.out.mono ?_); rintro e w1 ⟨rfl, rfl⟩)
    go_ret
    exact ⟨rfl, Below.refl _ _⟩
  · have k1 := long_any key w
    rw [decide_eq_false hk] at k1
    have K1 := hide k1
    clear k1
    by_cases hn : 60 < nonce.size
    · have k2 := long_any nonce w
      rw [decide_eq_true hn] at k2
      have K2 := hide k2
      clear k2
      go_enter Tryd.func4, Tryd.ntmps4
      go_wp2_with (first | (go_at_call 5; (with_reducible refine K1.out.mono ?_); rintro e w1 ⟨rfl, rfl⟩) | (go_at_call 5; (with_reducible refine K2.out.mono ?_); rintro e w2 ⟨rfl, rfl⟩))
      go_ret
      exact ⟨rfl, Below.refl _ _⟩
    · have k2 := long_any nonce w
      rw [decide_eq_false hn] at k2
      have K2 := hide k2
      clear k2
      by_cases hs : 300 < s.size
      · have d3 : decide ((300 : Int) < (s.size : Int)) = true := decide_eq_true (by omega)
        go_enter Tryd.func4, Tryd.ntmps4
        go_wp2_with (first | (go_at_call 5; (with_reducible refine K1.out.mono ?_); rintro e w1 ⟨rfl, rfl⟩) | (go_at_call 5; (with_reducible refine K2.out.mono ?_); rintro e w2 ⟨rfl, rfl⟩))
        go_ret
        exact ⟨rfl, Below.refl _ _⟩
      · have d3 : decide ((300 : Int) < (s.size : Int)) = false := decide_eq_false (by omega)
        obtain ⟨a1, c1, v1, r1, p1, b1⟩ := blocks_both key nonce n h0 h1
        obtain ⟨a2, c2, v2, r2, p2, b2⟩ := texts_both key nonce s (by omega)
        have R1 := hide r1
        have P1 := hide p1
        have B1 := hide b1
        have R2 := hide r2
        have P2 := hide p2
        have B2 := hide b2
        clear r1 p1 b1 r2 p2 b2
        go_enter Tryd.func4, Tryd.ntmps4
        go_wp2_with (first
          | (go_at_call 5; (with_reducible refine K1.out.mono ?_); rintro e w1 ⟨rfl, rfl⟩)
          | (go_at_call 5; (with_reducible refine K2.out.mono ?_); rintro e w2 ⟨rfl, rfl⟩)
          | (go_at_call 15; (with_reducible refine (R1.out _).mono ?_); rintro e w3 ⟨rfl, hb3⟩; have hE3 := hE.below hb3 hl)
          | (go_at_call 16; (with_reducible refine (P1.out _).mono ?_); rintro e w4 ⟨rfl, hb4⟩; have hE4 := hE3.below hb4 hE3.lt; have hB4 := hb3.trans (hb4.mono hb3.size))
          | (go_at_call 17; (with_reducible refine (B1.out _ hE4).mono ?_); rintro e w5 ⟨rfl, hb5⟩; have hE5 := hE4.below hb5 hE4.lt; have hB5 := hB4.trans (hb5.mono hB4.size))
          | (go_at_call 18; (with_reducible refine (R2.out _).mono ?_); rintro e w6 ⟨rfl, hb6⟩; have hE6 := hE5.below hb6 hE5.lt; have hB6 := hB5.trans (hb6.mono hB5.size))
          | (go_at_call 19; (with_reducible refine (P2.out _).mono ?_); rintro e w7 ⟨rfl, hb7⟩; have hE7 := hE6.below hb7 hE6.lt; have hB7 := hB6.trans (hb7.mono hB6.size))
          | (go_at_call 17; (with_reducible refine (B2.out _ hE7).mono ?_); rintro e w8 ⟨rfl, hb8⟩; have hB8 := hB7.trans (hb8.mono hB7.size)))
        go_ret
        exact ⟨rfl, hB8⟩
end Go.Proofs.YteiakfhlklhabaaDoor
