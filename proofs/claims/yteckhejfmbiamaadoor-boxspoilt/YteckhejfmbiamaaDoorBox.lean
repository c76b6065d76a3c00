/- Sealed texts: what the program's own tag, Seal and Open come to, for every key, nonce, with and text. -/
import Derived.Test.YteckhejfmbiamaaDoorMark
import Derived.Test.YteckhejfmbiamaaDoorStream
namespace Go.Proofs.YteckhejfmbiamaaDoor
open Go.RowKit
attribute [local go_sem ↓] Go.wp_at_zero Go.wp_at_succ
/-- A text taken together with a key's blocks; a mark; a tag. -/
def xorB (key nonce s : ByteArray) : ByteArray := ⟨(xorL key.data.toList nonce.data.toList s.data.toList).toArray⟩
def markB (kind : UInt8) (ps : List ByteArray) : ByteArray := (⟨(sha (markTo kind ps ps.length)).toArray⟩ : ByteArray).extract 0 16
def tagB (key nonce wi s : ByteArray) : ByteArray := markB 103 [key, nonce, wi, s]
theorem xorB_size (key nonce s : ByteArray) : (xorB key nonce s).size = s.size := xorTo_len _ _ _ _
theorem markB_size (kind : UInt8) (ps : List ByteArray) : (markB kind ps).size = 16 := by
  have hlen : (⟨(sha (markTo kind ps ps.length)).toArray⟩ : ByteArray).size = 32 := by
    show (sha (markTo kind ps ps.length)).length = 32
    unfold sha stBytes
    rfl
  unfold markB
  rw [ByteArray.size_extract, hlen]
  rfl
theorem tagB_size (key nonce wi s : ByteArray) : (tagB key nonce wi s).size = 16 := markB_size _ _
theorem lists_ne {a b : ByteArray} (h : a ≠ b) : (a.toList == b.toList) = false := by
  rw [beq_eq_false_iff_ne]
  intro e
  rw [ByteArray.toList_eq, ByteArray.toList_eq] at e
  exact h (ByteArray.ext (Array.toList_inj.1 e))
theorem lists_eq {a b : ByteArray} (h : a = b) : (a.toList == b.toList) = true := by rw [h]; simp
/-- A text is its first sixteen bytes and the rest. -/
theorem head_rest (s : ByteArray) : s.extract 0 16 ++ s.extract 16 s.size = s := by
  rw [ByteArray.extract_append_extract]
  simp
theorem app_head (a b : ByteArray) (h : a.size = 16) : (a ++ b).extract 0 16 = a := by
  rw [← h]
  exact ByteArray.extract_append_eq_left rfl
theorem app_rest (a b : ByteArray) (h : a.size = 16) : (a ++ b).extract 16 (a ++ b).size = b := by
  rw [← h]
  exact ByteArray.extract_append_eq_right rfl (by simp)
/-- Four texts that lie side by side are the parts of a mark. -/
theorem parts4 {w : World} (b : Nat) (p q r s : ByteArray) (hb : b < w.heap.size) (h0 : w.cell? ⟨b, 0, none⟩ = some (.string p)) (h1 : w.cell? ⟨b, 1, none⟩ = some (.string q)) (h2 : w.cell? ⟨b, 2, none⟩ = some (.string r)) (h3 : w.cell? ⟨b, 3, none⟩ = some (.string s)) :
    Parts w (.slice (some ⟨b, 0, none⟩) 4 4) [p, q, r, s] := by
  refine ⟨_, 4, rfl, .inr ⟨b, 0, rfl, hb, fun k hk => ?_⟩⟩
  have hk' : k < 4 := hk
  match k, hk' with
  | 0, _ => exact h0
  | 1, _ => exact h1
  | 2, _ => exact h2
  | 3, _ => exact h3
theorem mark_four (b : Nat) (p q r s : ByteArray) (w : World) (hp : p.size ≤ 20000) (hq : q.size ≤ 20000) (hr : r.size ≤ 20000) (hs : s.size ≤ 20000) (hK : TabK w)
    (hb : b < w.heap.size) (h0 : w.cell? ⟨b, 0, none⟩ = some (.string p)) (h1 : w.cell? ⟨b, 1, none⟩ = some (.string q)) (h2 : w.cell? ⟨b, 2, none⟩ = some (.string r)) (h3 : w.cell? ⟨b, 3, none⟩ = some (.string s)) :
    Calls Tryd.prog 16 #[.int .u8 103, .slice (some ⟨b, 0, none⟩) 4 4] w fun e w' => e = .returned (.string (tagB p q r s)) ∧ Below w.heap.size w w' :=
  mark_any 103 _ [p, q, r, s] w (parts4 b p q r s hb h0 h1 h2 h3) (by simp) (by simp [hp, hq, hr, hs]) hK
set_option maxRecDepth 100000 in
set_option maxHeartbeats 400000 in
theorem tag_any (key nonce wi s : ByteArray) (w : World) (hk : key.size ≤ 20000) (hn : nonce.size ≤ 20000) (hw : wi.size ≤ 20000) (hs : s.size ≤ 20000) (hK : TabK w) :
    Calls Tryd.prog 45 #[.string key, .string nonce, .string wi, .string s] w fun e w' => e = .returned (.string (tagB key nonce wi s)) ∧ Below w.heap.size w w' := by
  have q := mark_four w.heap.size key nonce wi s (w.alloc (.cells #[.string key, .string nonce, .string wi, .string s] 92)) hk hn hw hs (hK.below ((Below.refl _ w).alloc (Nat.le_refl _) _) hK.lt) (by simp) (by simp) (by simp) (by simp) (by simp)
  have Q := hide q
  clear q
  go_enter Tryd.func45, Tryd.ntmps45
  go_wp2_with (go_at_call 16; (with_reducible refine Q.out.mono ?_); rintro e w1 ⟨rfl, hb1⟩)
  go_ret
  exact ⟨rfl, ((Below.refl _ w).alloc (Nat.le_refl _) _).trans (hb1.mono (by simp))⟩
set_option maxRecDepth 100000 in
set_option maxHeartbeats 400000 in
theorem seal_limit (key nonce wi s : ByteArray) (w : World) (h : 400 < s.size) :
    Calls Tryd.prog 24 #[.string key, .string nonce, .string wi, .string s] w fun e w' => e = .returned (.tuple #[.string ByteArray.empty, .iface 30 (.int .i64 4)]) ∧ w' = w := by
  have d : decide ((400 : Int) < (s.size : Int)) = true := decide_eq_true (by omega)
  go_enter Tryd.func24, Tryd.ntmps24
  go_wp2
  go_ret2
  exact ⟨rfl, rfl⟩
set_option maxRecDepth 100000 in
set_option maxHeartbeats 400000 in
theorem seal_arg (key nonce wi s : ByteArray) (w : World) (h : s.size ≤ 400) (hb : ¬ (key.size = 32 ∧ nonce.size = 12)) :
    Calls Tryd.prog 24 #[.string key, .string nonce, .string wi, .string s] w fun e w' => e = .returned (.tuple #[.string ByteArray.empty, .iface 30 (.int .i64 1)]) ∧ w' = w := by
  have d : decide ((400 : Int) < (s.size : Int)) = false := decide_eq_false (by omega)
  have Q := hide (xor_bad key nonce s w hb)
  go_enter Tryd.func24, Tryd.ntmps24
  go_wp2_with (go_at_call 22; (with_reducible refine Q.out.mono ?_); rintro e w1 ⟨rfl, rfl⟩)
  go_ret2
  exact ⟨rfl, rfl⟩
set_option maxRecDepth 100000 in
set_option maxHeartbeats 400000 in
theorem seal_ok (key nonce wi s : ByteArray) (w : World) (h : s.size ≤ 400) (hk : key.size = 32) (hn : nonce.size = 12) (hw : wi.size ≤ 20000) (hK : TabK w) :
    Calls Tryd.prog 24 #[.string key, .string nonce, .string wi, .string s] w fun e w' => e = .returned (.tuple #[.string (tagB key nonce wi (xorB key nonce s) ++ xorB key nonce s), .nilIface]) ∧ Below w.heap.size w w' := by
  have d : decide ((400 : Int) < (s.size : Int)) = false := decide_eq_false (by omega)
  have q1 : Calls Tryd.prog 22 #[.string key, .string nonce, .string s] w fun e w' => e = .returned (.tuple #[.string (xorB key nonce s), .nilIface]) ∧ Below w.heap.size w w' := xor_ok key nonce s w hk hn (by omega)
  have lx := xorB_size key nonce s
  obtain ⟨X, hX⟩ : ∃ X, X = xorB key nonce s := ⟨_, rfl⟩
  rw [← hX] at q1 lx ⊢
  have q2 := hide (fun wx hKx => tag_any key nonce wi X wx (by omega) (by omega) hw (by omega) hKx)
  have lt := tagB_size key nonce wi X
  generalize tagB key nonce wi X = T at q2 lt
  have Q1 := hide q1
  clear q1 hX
  go_enter Tryd.func24, Tryd.ntmps24
  go_wp2_with (first
    | (go_at_call 22; (with_reducible refine Q1.out.mono ?_); rintro e w1 ⟨rfl, hb1⟩; have hK1 := hK.below hb1 hK.lt)
    | (go_at_call 45; (with_reducible refine (q2.out _ hK1).mono ?_); rintro e w2 ⟨rfl, hb2⟩))
  go_ret2
  exact ⟨rfl, hb1.trans (hb2.mono hb1.size)⟩
set_option maxRecDepth 100000 in
set_option maxHeartbeats 400000 in
theorem open_arg (key nonce wi s : ByteArray) (w : World) (hb : ¬ (key.size = 32 ∧ nonce.size = 12)) :
    Calls Tryd.prog 26 #[.string key, .string nonce, .string wi, .string s] w fun e w' => e = .returned (.tuple #[.string ByteArray.empty, .iface 30 (.int .i64 1)]) ∧ w' = w := by
  by_cases h1 : key.size = 32
  · have h2 : ¬ nonce.size = 12 := fun h => hb ⟨h1, h⟩
    have d1 : ((key.size : Int) == 32) = true := by simp; omega
    have d2 : ((nonce.size : Int) == 12) = false := by simp; omega
    go_enter Tryd.func26, Tryd.ntmps26
    go_wp2
    go_ret2
    exact ⟨rfl, rfl⟩
  · have d1 : ((key.size : Int) == 32) = false := by simp; omega
    go_enter Tryd.func26, Tryd.ntmps26
    go_wp2
    go_ret2
    exact ⟨rfl, rfl⟩
set_option maxRecDepth 100000 in
set_option maxHeartbeats 400000 in
theorem open_size (key nonce wi s : ByteArray) (w : World) (hk : key.size = 32) (hn : nonce.size = 12) (hs : s.size < 16 ∨ 416 < s.size) :
    Calls Tryd.prog 26 #[.string key, .string nonce, .string wi, .string s] w fun e w' => e = .returned (.tuple #[.string ByteArray.empty, .iface 30 (.int .i64 15)]) ∧ w' = w := by
  have d1 : ((key.size : Int) == 32) = true := by simp; omega
  have d2 : ((nonce.size : Int) == 12) = true := by simp; omega
  by_cases h1 : s.size < 16
  · have d3 : decide ((s.size : Int) < 16) = true := decide_eq_true (by omega)
    go_enter Tryd.func26, Tryd.ntmps26
    go_wp2
    go_ret2
    exact ⟨rfl, rfl⟩
  · have d3 : decide ((s.size : Int) < 16) = false := decide_eq_false (by omega)
    have d4 : decide ((416 : Int) < (s.size : Int)) = true := decide_eq_true (by omega)
    go_enter Tryd.func26, Tryd.ntmps26
    go_wp2
    go_ret2
    exact ⟨rfl, rfl⟩
set_option maxRecDepth 100000 in
set_option maxHeartbeats 400000 in
theorem open_tag (key nonce wi s : ByteArray) (w : World) (hk : key.size = 32) (hn : nonce.size = 12) (hw : wi.size ≤ 20000) (h0 : 16 ≤ s.size) (h1 : s.size ≤ 416) (hK : TabK w) (ht : s.extract 0 16 ≠ tagB key nonce wi (s.extract 16 s.size)) :
    Calls Tryd.prog 26 #[.string key, .string nonce, .string wi, .string s] w fun e w' => e = .returned (.tuple #[.string ByteArray.empty, .iface 30 (.int .i64 15)]) ∧ Below w.heap.size w w' := by
  have d1 : ((key.size : Int) == 32) = true := by simp; omega
  have d2 : ((nonce.size : Int) == 12) = true := by simp; omega
  have d3 : decide ((s.size : Int) < 16) = false := decide_eq_false (by omega)
  have d4 : decide ((416 : Int) < (s.size : Int)) = false := decide_eq_false (by omega)
  have q2 := hide (fun wx hKx => tag_any key nonce wi (s.extract 16 s.size) wx (by omega) (by omega) hw (by rw [ByteArray.size_extract]; omega) hKx)
  generalize tagB key nonce wi (s.extract 16 s.size) = T at q2 ht
  have d5 := lists_ne ht
  have hKd : TabK w.drew := hK.below (Below.refl _ w).drew hK.lt
  go_enter Tryd.func26, Tryd.ntmps26
  go_wp2
  go_region
  all_goals (
    go_wp2_with (go_at_call 45; (with_reducible refine (q2.out _ hKd).mono ?_); rintro e w2 ⟨rfl, hb2⟩)
    go_ret2
    exact ⟨rfl, (Below.refl _ w).drew.trans hb2⟩)
set_option maxRecDepth 100000 in
set_option maxHeartbeats 400000 in
theorem open_ok (key nonce wi s : ByteArray) (w : World) (hk : key.size = 32) (hn : nonce.size = 12) (hw : wi.size ≤ 20000) (h0 : 16 ≤ s.size) (h1 : s.size ≤ 416) (hK : TabK w) (ht : s.extract 0 16 = tagB key nonce wi (s.extract 16 s.size)) :
    Calls Tryd.prog 26 #[.string key, .string nonce, .string wi, .string s] w fun e w' => e = .returned (.tuple #[.string (xorB key nonce (s.extract 16 s.size)), .nilIface]) ∧ Below w.heap.size w w' := by
  have d1 : ((key.size : Int) == 32) = true := by simp; omega
  have d2 : ((nonce.size : Int) == 12) = true := by simp; omega
  have d3 : decide ((s.size : Int) < 16) = false := decide_eq_false (by omega)
  have d4 : decide ((416 : Int) < (s.size : Int)) = false := decide_eq_false (by omega)
  have hKd : TabK w.drew := hK.below (Below.refl _ w).drew hK.lt
  have q2 := hide (fun wx hKx => tag_any key nonce wi (s.extract 16 s.size) wx (by omega) (by omega) hw (by rw [ByteArray.size_extract]; omega) hKx)
  rw [← ht] at q2
  have q1 : ∀ wx, Calls Tryd.prog 22 #[.string key, .string nonce, .string (s.extract 16 s.size)] wx fun e w' => e = .returned (.tuple #[.string (xorB key nonce (s.extract 16 s.size)), .nilIface]) ∧ Below wx.heap.size wx w' := fun wx => xor_ok key nonce (s.extract 16 s.size) wx hk hn (by rw [ByteArray.size_extract]; omega)
  generalize xorB key nonce (s.extract 16 s.size) = X at q1
  have Q1 := hide q1
  clear q1 ht
  go_enter Tryd.func26, Tryd.ntmps26
  go_wp2
  go_region
  all_goals (
    go_wp2_with (first
      | (go_at_call 45; (with_reducible refine (q2.out _ hKd).mono ?_); rintro e w2 ⟨rfl, hb2⟩)
      | (go_at_call 22; (with_reducible refine (Q1.out _).mono ?_); rintro e w3 ⟨rfl, hb3⟩))
    go_ret2
    exact ⟨rfl, (Below.refl _ w).drew.trans (hb2.trans (hb3.mono hb2.size))⟩)
end Go.Proofs.YteckhejfmbiamaaDoor
