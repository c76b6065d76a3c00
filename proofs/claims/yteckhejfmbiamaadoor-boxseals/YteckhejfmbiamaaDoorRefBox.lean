/- The document's own sealing and opening come to the same bytes and errors. -/
import Derived.Test.YteckhejfmbiamaaDoorBox
import Derived.Test.YteckhejfmbiamaaDoorRefMark
import Derived.Test.YteckhejfmbiamaaDoorRefXor
namespace Go.Proofs.YteckhejfmbiamaaDoor
open Go.RowKit
attribute [local go_sem ↓] Go.wp_at_zero Go.wp_at_succ
theorem refMark_four (c b : Nat) (p q r s : ByteArray) (w : World) (hp : p.size ≤ 20000) (hq : q.size ≤ 20000) (hr : r.size ≤ 20000) (hs : s.size ≤ 20000) (hR : RefR w c)
    (hb : b < w.heap.size) (h0 : w.cell? ⟨b, 0, none⟩ = some (.string p)) (h1 : w.cell? ⟨b, 1, none⟩ = some (.string q)) (h2 : w.cell? ⟨b, 2, none⟩ = some (.string r)) (h3 : w.cell? ⟨b, 3, none⟩ = some (.string s)) :
    Calls Tryd.prog 17 #[.pointer (some ⟨c, 0, none⟩), .int .u8 103, .slice (some ⟨b, 0, none⟩) 4 4] w fun e w' => e = .returned (.string (tagB p q r s)) ∧ Below w.heap.size w w' :=
  refMark_any c 103 _ [p, q, r, s] w (parts4 b p q r s hb h0 h1 h2 h3) (by simp) (by simp [hp, hq, hr, hs]) hR
/-- The document's mark of four texts that have just been laid. -/
theorem refMark_new (c : Nat) (p q r s : ByteArray) (w : World) (hp : p.size ≤ 20000) (hq : q.size ≤ 20000) (hr : r.size ≤ 20000) (hs : s.size ≤ 20000) (hR : RefR w c) :
    Calls Tryd.prog 17 #[.pointer (some ⟨c, 0, none⟩), .int .u8 103, .slice (some ⟨w.heap.size, 0, none⟩) 4 4] (w.alloc (.cells #[.string p, .string q, .string r, .string s] 9)) fun e w' => e = .returned (.string (tagB p q r s)) ∧ Below w.heap.size w w' :=
  (refMark_four c w.heap.size p q r s (w.alloc (.cells #[.string p, .string q, .string r, .string s] 9)) hp hq hr hs (hR.below ((Below.refl _ w).alloc (Nat.le_refl _) _) hR.lt) (by simp) (by simp) (by simp) (by simp) (by simp)).mono
    fun _ _ ⟨he, hb⟩ => ⟨he, ((Below.refl _ w).alloc (Nat.le_refl _) _).trans (hb.mono (by simp))⟩
set_option maxRecDepth 100000 in
set_option maxHeartbeats 400000 in
theorem refSeal_limit (c : Nat) (key nonce wi s : ByteArray) (w : World) (h : 400 < s.size) :
    Calls Tryd.prog 23 #[.pointer (some ⟨c, 0, none⟩), .string key, .string nonce, .string wi, .string s] w fun e w' => e = .returned (.tuple #[.string ByteArray.empty, .int .i64 4]) ∧ w' = w := by
  have d : decide ((400 : Int) < (s.size : Int)) = true := decide_eq_true (by omega)
  go_enter Tryd.func23, Tryd.ntmps23
  go_wp2
  go_ret2
  exact ⟨rfl, rfl⟩
set_option maxRecDepth 100000 in
set_option maxHeartbeats 400000 in
theorem refSeal_arg (c : Nat) (key nonce wi s : ByteArray) (w : World) (h : s.size ≤ 400) (hb : ¬ (key.size = 32 ∧ nonce.size = 12)) :
    Calls Tryd.prog 23 #[.pointer (some ⟨c, 0, none⟩), .string key, .string nonce, .string wi, .string s] w fun e w' => e = .returned (.tuple #[.string ByteArray.empty, .int .i64 1]) ∧ w' = w := by
  have d : decide ((400 : Int) < (s.size : Int)) = false := decide_eq_false (by omega)
  have Q := hide (refXor_bad key nonce s w hb)
  go_enter Tryd.func23, Tryd.ntmps23
  go_wp2_with (go_at_call 21; (with_reducible refine Q.out.mono ?_); rintro e w1 ⟨rfl, rfl⟩)
  go_ret2
  exact ⟨rfl, rfl⟩
set_option maxRecDepth 100000 in
set_option maxHeartbeats 400000 in
theorem refSeal_ok (c : Nat) (key nonce wi s : ByteArray) (w : World) (h : s.size ≤ 400) (hk : key.size = 32) (hn : nonce.size = 12) (hw : wi.size ≤ 20000) (hR : RefR w c) :
    Calls Tryd.prog 23 #[.pointer (some ⟨c, 0, none⟩), .string key, .string nonce, .string wi, .string s] w fun e w' => e = .returned (.tuple #[.string (tagB key nonce wi (xorB key nonce s) ++ xorB key nonce s), .int .i64 0]) ∧ Below w.heap.size w w' := by
  have d : decide ((400 : Int) < (s.size : Int)) = false := decide_eq_false (by omega)
  have q1 : Calls Tryd.prog 21 #[.string key, .string nonce, .string s] w fun e w' => e = .returned (.tuple #[.string (xorB key nonce s), .int .i64 0]) ∧ Below w.heap.size w w' := refXor_ok key nonce s w hk hn (by omega)
  have lx := xorB_size key nonce s
  obtain ⟨X, hX⟩ : ∃ X, X = xorB key nonce s := ⟨_, rfl⟩
  rw [← hX] at q1 lx ⊢
  have q2 := hide (fun wx hRx => refMark_new c key nonce wi X wx (by omega) (by omega) hw (by omega) hRx)
  have lt := tagB_size key nonce wi X
  generalize tagB key nonce wi X = T at q2 lt
  have Q1 := hide q1
  clear q1 hX
  go_enter Tryd.func23, Tryd.ntmps23
  go_wp2_with (first
    | (go_at_call 21; (with_reducible refine Q1.out.mono ?_); rintro e w1 ⟨rfl, hb1⟩; have hR1 := hR.below hb1 hR.lt)
    | (go_at_call 17; (with_reducible refine (q2.out _ hR1).mono ?_); rintro e w2 ⟨rfl, hb2⟩))
  go_ret2
  exact ⟨rfl, hb1.trans (hb2.mono hb1.size)⟩
set_option maxRecDepth 100000 in
set_option maxHeartbeats 400000 in
theorem unseal_arg (c : Nat) (key nonce wi s : ByteArray) (w : World) (hb : ¬ (key.size = 32 ∧ nonce.size = 12)) :
    Calls Tryd.prog 25 #[.pointer (some ⟨c, 0, none⟩), .string key, .string nonce, .string wi, .string s] w fun e w' => e = .returned (.tuple #[.string ByteArray.empty, .int .i64 1]) ∧ w' = w := by
  by_cases h1 : key.size = 32
  · have h2 : ¬ nonce.size = 12 := fun h => hb ⟨h1, h⟩
    have d1 : ((key.size : Int) == 32) = true := by simp; omega
    have d2 : ((nonce.size : Int) == 12) = false := by simp; omega
    go_enter Tryd.func25, Tryd.ntmps25
    go_wp2
    go_ret2
    exact ⟨rfl, rfl⟩
  · have d1 : ((key.size : Int) == 32) = false := by simp; omega
    go_enter Tryd.func25, Tryd.ntmps25
    go_wp2
    go_ret2
    exact ⟨rfl, rfl⟩
set_option maxRecDepth 100000 in
set_option maxHeartbeats 400000 in
theorem unseal_size (c : Nat) (key nonce wi s : ByteArray) (w : World) (hk : key.size = 32) (hn : nonce.size = 12) (hs : s.size < 16 ∨ 416 < s.size) :
    Calls Tryd.prog 25 #[.pointer (some ⟨c, 0, none⟩), .string key, .string nonce, .string wi, .string s] w fun e w' => e = .returned (.tuple #[.string ByteArray.empty, .int .i64 15]) ∧ w' = w := by
  have d1 : ((key.size : Int) == 32) = true := by simp; omega
  have d2 : ((nonce.size : Int) == 12) = true := by simp; omega
  have q := in_any (s.size : Int) 16 416 w
  rw [show (decide ((16 : Int) ≤ (s.size : Int)) && decide ((s.size : Int) ≤ 416)) = false by simp; omega] at q
  have Q := hide q
  clear q
  go_enter Tryd.func25, Tryd.ntmps25
  go_wp2_with (go_at_call 39; (with_reducible refine Q.out.mono ?_); rintro e w1 ⟨rfl, rfl⟩)
  go_ret2
  exact ⟨rfl, rfl⟩
set_option maxRecDepth 100000 in
set_option maxHeartbeats 400000 in
theorem unseal_tag (c : Nat) (key nonce wi s : ByteArray) (w : World) (hk : key.size = 32) (hn : nonce.size = 12) (hw : wi.size ≤ 20000) (h0 : 16 ≤ s.size) (h1 : s.size ≤ 416) (hR : RefR w c) (ht : s.extract 0 16 ≠ tagB key nonce wi (s.extract 16 s.size)) :
    Calls Tryd.prog 25 #[.pointer (some ⟨c, 0, none⟩), .string key, .string nonce, .string wi, .string s] w fun e w' => e = .returned (.tuple #[.string ByteArray.empty, .int .i64 15]) ∧ Below w.heap.size w w' := by
  have d1 : ((key.size : Int) == 32) = true := by simp; omega
  have d2 : ((nonce.size : Int) == 12) = true := by simp; omega
  have q := in_any (s.size : Int) 16 416 w
  rw [show (decide ((16 : Int) ≤ (s.size : Int)) && decide ((s.size : Int) ≤ 416)) = true by simp; omega] at q
  have Q := hide q
  clear q
  have q2 := hide (fun wx hRx => refMark_new c key nonce wi (s.extract 16 s.size) wx (by omega) (by omega) hw (by rw [ByteArray.size_extract]; omega) hRx)
  have lt := tagB_size key nonce wi (s.extract 16 s.size)
  generalize tagB key nonce wi (s.extract 16 s.size) = T at q2 ht lt
  have lr : (s.extract 16 s.size).size ≤ 400 := by rw [ByteArray.size_extract]; omega
  have d5 : ((T ++ s.extract 16 s.size).toList == s.toList) = false := lists_ne (fun e => ht (by rw [← e, app_head _ _ lt]))
  go_enter Tryd.func25, Tryd.ntmps25
  go_wp2_with (first
    | (go_at_call 39; (with_reducible refine Q.out.mono ?_); rintro e w1 ⟨rfl, rfl⟩)
    | (go_at_call 17; (with_reducible refine (q2.out _ hR).mono ?_); rintro e w2 ⟨rfl, hb2⟩))
  go_ret2
  exact ⟨rfl, hb2⟩
set_option maxRecDepth 100000 in
set_option maxHeartbeats 400000 in
theorem unseal_ok (c : Nat) (key nonce wi s : ByteArray) (w : World) (hk : key.size = 32) (hn : nonce.size = 12) (hw : wi.size ≤ 20000) (h0 : 16 ≤ s.size) (h1 : s.size ≤ 416) (hR : RefR w c) (ht : s.extract 0 16 = tagB key nonce wi (s.extract 16 s.size)) :
    Calls Tryd.prog 25 #[.pointer (some ⟨c, 0, none⟩), .string key, .string nonce, .string wi, .string s] w fun e w' => e = .returned (.tuple #[.string (xorB key nonce (s.extract 16 s.size)), .int .i64 0]) ∧ Below w.heap.size w w' := by
  have d1 : ((key.size : Int) == 32) = true := by simp; omega
  have d2 : ((nonce.size : Int) == 12) = true := by simp; omega
  have q := in_any (s.size : Int) 16 416 w
  rw [show (decide ((16 : Int) ≤ (s.size : Int)) && decide ((s.size : Int) ≤ 416)) = true by simp; omega] at q
  have Q := hide q
  clear q
  have q2 := hide (fun wx hRx => refMark_new c key nonce wi (s.extract 16 s.size) wx (by omega) (by omega) hw (by rw [ByteArray.size_extract]; omega) hRx)
  have lt := tagB_size key nonce wi (s.extract 16 s.size)
  have q1 : ∀ wx, Calls Tryd.prog 21 #[.string key, .string nonce, .string (s.extract 16 s.size)] wx fun e w' => e = .returned (.tuple #[.string (xorB key nonce (s.extract 16 s.size)), .int .i64 0]) ∧ Below wx.heap.size wx w' := fun wx => refXor_ok key nonce (s.extract 16 s.size) wx hk hn (by rw [ByteArray.size_extract]; omega)
  generalize xorB key nonce (s.extract 16 s.size) = X at q1
  generalize tagB key nonce wi (s.extract 16 s.size) = T at q2 ht lt
  have Q1 := hide q1
  clear q1
  have lr : (s.extract 16 s.size).size ≤ 400 := by rw [ByteArray.size_extract]; omega
  have d5 : ((T ++ s.extract 16 s.size).toList == s.toList) = true := lists_eq (by rw [← ht]; exact head_rest s)
  clear ht
  go_enter Tryd.func25, Tryd.ntmps25
  go_wp2_with (first
    | (go_at_call 39; (with_reducible refine Q.out.mono ?_); rintro e w1 ⟨rfl, rfl⟩)
    | (go_at_call 17; (with_reducible refine (q2.out _ hR).mono ?_); rintro e w2 ⟨rfl, hb2⟩)
    | (go_at_call 21; (with_reducible refine (Q1.out _).mono ?_); rintro e w3 ⟨rfl, hb3⟩))
  go_ret2
  exact ⟨rfl, hb2.trans (hb3.mono hb2.size)⟩
end Go.Proofs.YteckhejfmbiamaaDoor
