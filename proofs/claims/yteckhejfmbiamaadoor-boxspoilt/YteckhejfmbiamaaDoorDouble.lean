/- A double round: what the program's own comes to, for every sixteen words. -/
import Derived.Test.YteckhejfmbiamaaDoorQuarter
namespace Go.Proofs.YteckhejfmbiamaaDoor
open Go.RowKit
attribute [local go_sem ↓] Go.wp_at_zero Go.wp_at_succ
theorem qr_sum (B : Nat) (L : List (BitVec 32)) (k : Nat) (hk : k < 4) (hl : L.length = 16) (w : World) (h : HasW w B 81 L) :
    Calls Tryd.prog 72 #[.pointer (some ⟨B, 0, none⟩), .int .i64 (k : Int), .int .i64 (4 + (k : Int)), .int .i64 (8 + (k : Int)), .int .i64 (12 + (k : Int))] w fun e w' => e = .returned (.tuple #[]) ∧ HasW w' B 81 (qr L k (4 + k) (8 + k) (12 + k)) ∧ Only B w w' :=
  qr_any B L k (4 + k) (8 + k) (12 + k) (by omega) (by omega) (by omega) (by omega) hl w h
theorem qr_dia (B : Nat) (L : List (BitVec 32)) (k : Nat) (hk : k < 4) (hl : L.length = 16) (w : World) (h : HasW w B 81 L) :
    Calls Tryd.prog 72 #[.pointer (some ⟨B, 0, none⟩), .int .i64 (k : Int), .int .i64 (4 + ((k : Int) + 1) % 4), .int .i64 (8 + ((k : Int) + 2) % 4), .int .i64 (12 + ((k : Int) + 3) % 4)] w fun e w' => e = .returned (.tuple #[]) ∧ HasW w' B 81 (qr L k (4 + (k + 1) % 4) (8 + (k + 2) % 4) (12 + (k + 3) % 4)) ∧ Only B w w' :=
  qr_any B L k (4 + (k + 1) % 4) (8 + (k + 2) % 4) (12 + (k + 3) % 4) (by omega) (by omega) (by omega) (by omega) hl w h
set_option maxRecDepth 100000 in
set_option maxHeartbeats 1000000 in
theorem double_any (B : Nat) (L : List (BitVec 32)) (hl : L.length = 16) (w : World) (h : HasW w B 81 L) :
    Calls Tryd.prog 53 #[.pointer (some ⟨B, 0, none⟩)] w fun e w' => e = .returned (.tuple #[]) ∧ HasW w' B 81 (dbl L) ∧ Only B w w' := by
  obtain ⟨D, hD⟩ : ∃ D, D = dbl L := ⟨_, rfl⟩
  rw [← hD]
  have HD0 := hide hD
  clear hD
  go_enter Tryd.func53, Tryd.ntmps53
  go_wp2
  go_loopw [4] (fun i wr => ∃ k : Nat, k ≤ 4 ∧ i = .int .i64 k ∧ HasW wr B 81 (colTo L k) ∧ Only B w wr)
     (fun i _ => 4 - (intOf i).toNat)
  case atStart => exact ⟨0, by omega, rfl, h, Only.refl _ _⟩
  case round =>
    obtain ⟨k, hk, rfl, h1, o1⟩ := hrel
    have l1 : (colTo L k).length = 16 := by rw [colTo_len, hl]
    by_cases hlt : k < 4
    · have HC := hide (fun wx hx => qr_sum B (colTo L k) k hlt l1 wx hx)
      go_wp2_with (go_at_call 72; refine (HC.out _ h1).mono ?_; rintro e w1 ⟨rfl, h2, o2⟩)
      go_roundw
      case rel => exact ⟨k + 1, by omega, by go_num, h2, o1.trans o2⟩
      case measure => simp [intOf]; omega
    · obtain rfl : k = 4 := by omega
      have hD : D = diaTo (colTo L 4) 4 := HD0.out
      clear HD0
      generalize colTo L 4 = M at h1 l1 hD
      have HD := hide hD
      clear hD
      go_wp2
      go_loopw [17] (fun i wx => ∃ k : Nat, k ≤ 4 ∧ i = .int .i64 k ∧ HasW wx B 81 (diaTo M k) ∧ Only B w wx)
        (fun i _ => 4 - (intOf i).toNat)
      case atStart => exact ⟨0, by omega, rfl, h1, o1⟩
      case round =>
        clear h1 o1 hk hlt
        obtain ⟨k, hk, rfl, h1, o1⟩ := hrel
        have l2 : (diaTo M k).length = 16 := by rw [diaTo_len, l1]
        by_cases hlt : k < 4
        · have HC := hide (fun wx hx => qr_dia B (diaTo M k) k hlt l2 wx hx)
          go_wp2_with (go_at_call 72; refine (HC.out _ h1).mono ?_; rintro e w1 ⟨rfl, h2, o2⟩)
          go_roundw
          case rel => (repeat apply Exists.intro); exact ⟨⟨k + 1, by omega, by go_num, h2, o1.trans o2⟩, rfl⟩
          case measure => simp [intOf]; omega
        · obtain rfl : k = 4 := by omega
          go_wp2
          go_end0
          exact ⟨rfl, by rw [HD.out]; exact h1, o1⟩
end Go.Proofs.YteckhejfmbiamaaDoor
