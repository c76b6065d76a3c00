/- The first bits behind the point of a root: what the document's 'root' comes to. -/
import Derived.Test.YtdoakaadpfheaaaDoorAbove
namespace Go.Proofs.YtdoakaadpfheaaaDoor
open Go.RowKit
/-- The greatest number whose power is not above. -/
def isRoot (p k lo : Nat) : Prop := lo ^ k ≤ p * 65536 ^ (2 * k) ∧ p * 65536 ^ (2 * k) < (lo + 1) ^ k
theorem isRoot_unique {p k a b : Nat} (ha : isRoot p k a) (hb : isRoot p k b) : a = b := by
  have key : ∀ a b, isRoot p k a → isRoot p k b → a ≤ b := by
    intro a b ha hb
    rcases Nat.lt_or_ge b a with h | h
    · have h1 : (b + 1) ^ k ≤ a ^ k := Nat.pow_le_pow_left h k
      have h2 := hb.2
      have h3 := ha.1
      omega
    · exact h
  exact Nat.le_antisymm (key a b ha hb) (key b a hb ha)
set_option maxRecDepth 100000 in
set_option maxHeartbeats 1000000 in
theorem root_any (p k : Nat) (w : World) (hk : k = 2 ∨ k = 3) (hp : p < 65536) :
    Calls Tryd.prog 46 #[.int .u64 p, .int .i64 k] w fun e w' => ∃ lo : Nat, e = .returned (.int .u32 ((lo : Int) % 4294967296)) ∧ isRoot p k lo ∧ Below w.heap.size w w' := by
  have hhi : p * 65536 ^ (2 * k) < 1099511627776 ^ k := by
    rcases hk with rfl | rfl
    · have e : (1099511627776 : Nat) ^ 2 = 65536 * 65536 ^ (2 * 2) := by decide
      rw [e]
      exact Nat.mul_lt_mul_of_pos_right hp (by decide)
    · have e : (1099511627776 : Nat) ^ 3 = 16777216 * 65536 ^ (2 * 3) := by decide
      rw [e]
      exact Nat.mul_lt_mul_of_pos_right (by omega) (by decide)
  have hlo : 0 ^ k ≤ p * 65536 ^ (2 * k) := by
    rcases hk with rfl | rfl <;> simp
  go_enter Tryd.func46, Tryd.ntmps46
  go_wp2_with fail
  go_loopw [5, 6] (fun a b wr => ∃ lo hi : Nat, a = .int .u64 (lo : Int) ∧ b = .int .u64 (hi : Int) ∧ lo < hi ∧ hi ≤ 1099511627776 ∧ lo ^ k ≤ p * 65536 ^ (2 * k) ∧ p * 65536 ^ (2 * k) < hi ^ k ∧ Below w.heap.size w wr)
    (fun a b _ => (intOf b - intOf a).toNat)
  case atStart => exact ⟨0, 1099511627776, rfl, rfl, by omega, by omega, hlo, hhi, Below.refl _ _⟩
  case round =>
    clear hlo hhi
    obtain ⟨lo, hi, rfl, rfl, hlh, hhb, hl, hh, hb⟩ := hrel
    have HL := hide hl
    have HH := hide hh
    clear hl hh
    by_cases hlt : lo + 1 < hi
    · have hab := hide (above_any ((lo + hi) / 2) k p wr (by omega) hk hp)
      by_cases hP : p * 65536 ^ (2 * k) < ((lo + hi) / 2) ^ k
      · have hd : decide (p * 65536 ^ (2 * k) < ((lo + hi) / 2) ^ k) = true := by simpa using hP
        rw [hd] at hab
        have HP := hide hP
        clear hP hd hk
        go_wp2_with fail
        rw [show (((lo : Int) + (hi : Int)) / 2) = (((lo + hi) / 2 : Nat) : Int) from by omega]
        refine hab.out.mono ?_
        rintro e w1 ⟨rfl, hb1⟩
        go_wp2
        go_roundw
        case rel => exact ⟨lo, (lo + hi) / 2, rfl, by simp, by omega, by omega, HL.out, HP.out, hb.trans (hb1.mono hb.size)⟩
        case measure => simp [intOf]; omega
      · have hd : decide (p * 65536 ^ (2 * k) < ((lo + hi) / 2) ^ k) = false := by simpa using hP
        rw [hd] at hab
        have HP := hide (Nat.le_of_not_lt hP)
        clear hP hd hk
        go_wp2_with fail
        rw [show (((lo : Int) + (hi : Int)) / 2) = (((lo + hi) / 2 : Nat) : Int) from by omega]
        refine hab.out.mono ?_
        rintro e w1 ⟨rfl, hb1⟩
        go_wp2
        go_roundw
        case rel => exact ⟨(lo + hi) / 2, hi, by simp, rfl, by omega, by omega, HP.out, HH.out, hb.trans (hb1.mono hb.size)⟩
        case measure => simp [intOf]; omega
    · have e : lo + 1 = hi := by omega
      have hh := HH.out
      rw [← e] at hh
      have hroot : isRoot p k lo := ⟨HL.out, hh⟩
      clear e hh
      have HR := hide hroot
      clear hroot HL HH hk
      go_wp2
      go_ret
      exact ⟨lo, rfl, HR.out, hb⟩
end Go.Proofs.YtdoakaadpfheaaaDoor
