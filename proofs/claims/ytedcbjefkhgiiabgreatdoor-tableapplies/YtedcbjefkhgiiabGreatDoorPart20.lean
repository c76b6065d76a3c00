/- Texts of this proof, one behind the other. -/
import Derived.Sort.WalkA6
import Derived.Test.YtedcbjefkhgiiabGreatDoorPart19
/- sort.reverseRange_func: the sort's swap alone. -/
namespace Go.Proofs.YtedcbjefkhgiiabGreatDoor
open Go.RowKit Go.Sort
attribute [local go_sem ↓] Go.wp_at_zero Go.wp_at_succ
set_option linter.unusedSectionVars false
variable [Inhabited Cl]
set_option maxHeartbeats 1000000 in
set_option maxRecDepth 100000 in
theorem reverse_any (w0 : World) (blk n g : Nat) (lb : Array Value) (sf : Nat) (sb : Array Value) (a b : Nat) (d : Array Cl) (W : World)
    (hswap : SwapSwapsK Tryz.prog sf sb cellL 4 blk 0 n) (hS : Srt w0 blk W d) (hd : d.size = n) (hab : a < b) (hb : b ≤ n) (hn : n ≤ 1000000) :
    Calls Tryz.prog 130 #[.agg #[.func (.func g) #[] lb, .func (.func sf) #[] sb], .int .i64 a, .int .i64 b] W fun e w' => e = .returned (.tuple #[]) ∧ Srt w0 blk w' (reverseRange d a b) ∧ Stirred [blk] W w' := by
  have D0 := hide (dat_new hS g lb sf sb)
  have HW := hide hswap
  clear hS hswap
  go_enter Tryz.func130, Tryz.ntmps130
  go_wp2
  go_loopw [6, 7] (fun vi vj wr => ∃ (i j : Nat) (dk : Array Cl), vi = .int .i64 i ∧ vj = .int .i64 j ∧ a ≤ i ∧ j < b ∧ i ≤ j + 1 ∧ dk.size = n ∧ Dat w0 W blk g lb sf sb wr dk ∧ Hid (reverseLoop i j dk = reverseLoop a (b - 1) d)) (fun vi vj _ => ((intOf vj) - (intOf vi) + 1).toNat)
  case atStart => exact ⟨a, b - 1, d, rfl, by go_num, Nat.le_refl _, by omega, by omega, hd, D0.out, rfl⟩
  case round =>
    clear D0
    obtain ⟨i, j, dk, rfl, rfl, hi, hj, hij, hds, hD, HE⟩ := hrel
    have D := hide hD
    have c1 : wr.cell? ⟨W.heap.size, 1, none⟩ = some (.func (.func sf) #[] sb) := hD.box.cell 1
    clear hD
    by_cases hlt : i < j
    · obtain ⟨w3, hw3, hD3⟩ := D.out.swap HW.out hds (i := i) (j := j) (by omega) (by omega) (x := (i : Int)) (y := (j : Int)) rfl rfl
      have D3 := hide hD3
      clear hD3
      go_wp2
      go_roundw
      case rel => exact ⟨i + 1, j - 1, swp dk i j, by go_num, by go_num, by omega, by omega, by omega, by rw [size_swp]; exact hds, D3.out, (show Hid _ from by rw [← HE.out, reverseLoop.eq_def i j dk, if_pos hlt]; exact rfl)⟩
      case measure => simp [intOf]; omega
    · go_wp2
      go_end0
      exact ⟨rfl, by unfold reverseRange; rw [← HE.out, reverseLoop, if_neg hlt]; exact D.out.srt, D.out.but⟩
end Go.Proofs.YtedcbjefkhgiiabGreatDoor

/- sort.partialInsertionSort_func with a 'less' that may make blocks, below 50 elements: it turns nothing there. -/
namespace Go.Proofs.YtedcbjefkhgiiabGreatDoor
open Go.RowKit Go.Sort
attribute [local go_sem ↓] Go.wp_at_zero Go.wp_at_succ
set_option linter.unusedSectionVars false
variable [Inhabited Cl]
set_option maxHeartbeats 4000000 in
set_option maxRecDepth 1000000 in
theorem partial_any (w0 : World) (blk n g : Nat) (lb : Array Value) (sf : Nat) (sb : Array Value) (a b : Nat) (d : Array Cl) (W : World) (eg : ∀ args w, (callFunc g args).run Tryz.prog w = .ok (.enter g args) w)
    (hless : LessS w0 blk n g lb) (hS : Srt w0 blk W d) (hd : d.size = n) (hab : a < b) (hb : b ≤ n) (h50 : b - a < 50) (hn : n ≤ 1000000) :
    Calls Tryz.prog 131 #[.agg #[.func (.func g) #[] lb, .func (.func sf) #[] sb], .int .i64 a, .int .i64 b] W fun e w' => e = .returned (.bool (partialInsertionSort ltC d a b).2) ∧ Srt w0 blk w' (partialInsertionSort ltC d a b).1 ∧ Stirred [blk] W w' := by
  have D0 := hide (dat_new hS g lb sf sb)
  have HL := hide hless
  clear hS hless
  go_enter Tryz.func131, Tryz.ntmps131
  go_wp2
  go_loopg [7, 8] 5 (fun g1 vi vs wr => vi = .int .i64 ((a : Int) + 1) ∧ vs = .int .i64 0 ∧ Dat w0 W blk g lb sf sb wr d)
  case atStart => exact ⟨rfl, rfl, D0.out⟩
  case round =>
    clear D0
    obtain ⟨rfl, rfl, hD⟩ := hrel
    have D := hide hD
    clear hD
    go_wp2
    go_loopg [7] (b - (a + 1)) (fun g2 vi wr2 => ∃ (kx : Nat), vi = .int .i64 kx ∧ a + 1 ≤ kx ∧ kx ≤ b ∧ b - kx ≤ g2 ∧ Dat w0 W blk g lb sf sb wr2 d ∧ Hid (scanSorted ltC d b kx = scanSorted ltC d b (a + 1)))
    case atStart => exact ⟨a + 1, by go_num, Nat.le_refl _, by omega, Nat.le_refl _, D.out, rfl⟩
    case round =>
      clear D
      obtain ⟨kx, rfl, hik, hkb, hg2, hD, HSc⟩ := hrel
      have D := hide hD
      have d0 : wr.cell? ⟨W.heap.size, 0, none⟩ = some (.func (.func g) #[] lb) := hD.box.cell 0
      clear hD
      by_cases hkb' : kx < b
      · have hkz : (kx : Int) < (b : Int) := by omega
        cases hlv : ltC d[kx]! d[kx - 1]! with
        | false =>
          have L1 := hide (D.out.less HL.out hd (i := kx) (j := kx - 1) (by omega) (by omega) (x := (kx : Int)) (y := (kx : Int) - 1) rfl (by omega) hlv)
          go_wp2_with (go_at_fn g; (with_reducible refine L1.out.mono ?_); rintro e w' ⟨rfl, hD'⟩; have D' := hide hD'; clear hD')
          go_roundg (b - (kx + 1))
          case measure => omega
          case rel => exact ⟨kx + 1, by go_num, by omega, by omega, Nat.le_refl _, D'.out, (show Hid _ from by rw [← HSc.out, scanSorted_go ltC d b kx hkb' hlv]; exact rfl)⟩
        | true =>
          have L1 := hide (D.out.less HL.out hd (i := kx) (j := kx - 1) (by omega) (by omega) (x := (kx : Int)) (y := (kx : Int) - 1) rfl (by omega) hlv)
          have HK : Hid (scanSorted ltC d b (a + 1) = kx) := by show _ = _; rw [← HSc.out, scanSorted_stop ltC d b kx (Or.inr hlv)]
          have hkne : ((kx : Int) == (b : Int)) = false := beq_eq_false_iff_ne.2 (by omega)
          have h50z : (b : Int) - (a : Int) < 50 := by omega
          go_wp2_with (go_at_fn g; (with_reducible refine L1.out.mono ?_); rintro e w' ⟨rfl, hD'⟩; have D' := hide hD'; clear hD')
          have hv : partialInsertionSort ltC d a b = (d, false) := by
            unfold partialInsertionSort
            exact pi_short ltC a b 0 (a + 1) d (by omega) (by rw [HK.out]; omega) h50
          rw [hv]
          go_ret
          exact ⟨rfl, D'.out.srt, D'.out.but⟩
      · obtain rfl : kx = b := by omega
        have hkz : ¬ (kx : Int) < (kx : Int) := by omega
        go_wp2
        have hv : partialInsertionSort ltC d a kx = (d, true) := by
          unfold partialInsertionSort
          exact pi_true ltC a kx 0 (a + 1) d (by omega) (by rw [← HSc.out, scanSorted_stop ltC d kx kx (Or.inl (by omega))])
        rw [hv]
        go_ret
        exact ⟨rfl, D.out.srt, D.out.but⟩
end Go.Proofs.YtedcbjefkhgiiabGreatDoor
