/- Texts of this proof, one behind the other. -/
import Derived.Sort.WalkC4
import Derived.Test.YtedcbjefkhgiiabGreatDoorPart20
/- sort.partitionEqual_func with a 'less' that may make blocks. -/
namespace Go.Proofs.YtedcbjefkhgiiabGreatDoor
open Go.RowKit Go.Sort
attribute [local go_sem ↓] Go.wp_at_zero Go.wp_at_succ
set_option linter.unusedSectionVars false
variable [Inhabited Cl]
set_option maxHeartbeats 6400000 in
set_option maxRecDepth 100000 in
theorem partEq_any (w0 : World) (blk n g : Nat) (lb : Array Value) (sf : Nat) (sb : Array Value) (a b pivot : Nat) (d : Array Cl) (W : World) (eg : ∀ args w, (callFunc g args).run Tryz.prog w = .ok (.enter g args) w)
    (hless : LessS w0 blk n g lb) (hswap : SwapSwapsK Tryz.prog sf sb cellL 4 blk 0 n) (hS : Srt w0 blk W d) (hd : d.size = n) (hap : a ≤ pivot) (hpb : pivot < b) (hb : b ≤ n) (hn : n ≤ 1000000) :
    Calls Tryz.prog 132 #[.agg #[.func (.func g) #[] lb, .func (.func sf) #[] sb], .int .i64 a, .int .i64 b, .int .i64 pivot] W fun e w' => e = .returned (.int .i64 (partitionEqual ltC d a b pivot).1) ∧ Srt w0 blk w' (partitionEqual ltC d a b pivot).2 ∧ Stirred [blk] W w' := by
  have D0 := hide (dat_new hS g lb sf sb)
  obtain ⟨w3, hw3, hD3⟩ := D0.out.swap hswap hd (i := a) (j := pivot) (by omega) (by omega) (x := (a : Int)) (y := (pivot : Int)) rfl rfl
  have D3 := hide hD3
  have c1 : (W.alloc (.cells #[.func (.func g) #[] lb, .func (.func sf) #[] sb] 152)).cell? ⟨W.heap.size, 1, none⟩ = some (.func (.func sf) #[] sb) := D0.out.box.cell 1
  have HL := hide hless
  have HW := hide hswap
  clear hS hless hswap hD3 D0
  go_enter Tryz.func132, Tryz.ntmps132
  go_wp2
  go_loopw [9, 10] (fun vi vj wr => ∃ (i j : Nat) (dk : Array Cl), vi = .int .i64 i ∧ vj = .int .i64 j ∧ a < i ∧ i ≤ j + 1 ∧ j < b ∧ dk.size = n ∧ Dat w0 W blk g lb sf sb wr dk ∧ Hid (partEqLoop ltC a i j dk = partEqLoop ltC a (a + 1) (b - 1) (swp d a pivot))) (fun vi vj _ => (intOf vj).toNat + 1 - (intOf vi).toNat)
  case atStart => exact ⟨a + 1, b - 1, swp d a pivot, by go_num, by go_num, by omega, by omega, by omega, by rw [size_swp]; exact hd, D3.out, rfl⟩
  case round =>
    clear D3 hw3 c1
    obtain ⟨i, j, dk, rfl, rfl, hai, hij, hjb, hs, hD, AE⟩ := hrel
    have D := hide hD
    clear hD
    go_wp2
    go_loopw [9] (fun vi w1 => ∃ (i' : Nat), vi = .int .i64 i' ∧ i ≤ i' ∧ i' ≤ j + 1 ∧ Dat w0 W blk g lb sf sb w1 dk ∧ Hid (scanUp (fun x => !ltC dk[a]! x) dk j i' = scanUp (fun x => !ltC dk[a]! x) dk j i)) (fun vi _ => j + 1 - (intOf vi).toNat)
    case atStart => exact ⟨i, rfl, Nat.le_refl _, hij, D.out, rfl⟩
    case round =>
      clear D
      obtain ⟨i', rfl, hii, hij', hD, hsc⟩ := hrel
      have D := hide hD
      have d0 : wr.cell? ⟨W.heap.size, 0, none⟩ = some (.func (.func g) #[] lb) := hD.box.cell 0
      clear hD
      by_cases hle : i' ≤ j
      · cases hlv : ltC dk[a]! dk[i']! with
        | false =>
          have L1 := hide (D.out.less HL.out hs (i := a) (j := i') (by omega) (by omega) (x := (a : Int)) (y := (i' : Int)) rfl rfl hlv)
          go_wp2_with (go_at_fn g; (with_reducible refine L1.out.mono ?_); rintro e w' ⟨rfl, hD'⟩; have D' := hide hD'; clear hD')
          go_roundw
          case rel => exact ⟨i' + 1, by go_num, by omega, by omega, D'.out, (scanUp_go (fun x => !ltC dk[a]! x) dk j i' hle (by simp [hlv])).symm.trans hsc.out⟩
          case measure => simp [intOf]; omega
        | true =>
          have L1 := hide (D.out.less HL.out hs (i := a) (j := i') (by omega) (by omega) (x := (a : Int)) (y := (i' : Int)) rfl rfl hlv)
          have hi2 : Hid (i' = scanUp (fun x => !ltC dk[a]! x) dk j i) := (scanUp_end (fun x => !ltC dk[a]! x) dk j i' (Or.inr (by simp [hlv]))).symm.trans hsc.out
          go_wp2_with (go_at_fn g; (with_reducible refine L1.out.mono ?_); rintro e w' ⟨rfl, hD'⟩; have D' := hide hD'; clear hD')
          clear d0 D hsc L1
          go_loopw [10] (fun vj w2 => ∃ (j' : Nat), vj = .int .i64 j' ∧ j' ≤ j ∧ i' ≤ j' + 1 ∧ Dat w0 W blk g lb sf sb w2 dk ∧ Hid (scanDown (fun x => ltC dk[a]! x) dk i' j' = scanDown (fun x => ltC dk[a]! x) dk i' j)) (fun vj _ => (intOf vj).toNat)
          case atStart => exact ⟨j, rfl, Nat.le_refl _, hij', D'.out, rfl⟩
          case round =>
            clear D'
            obtain ⟨j', rfl, hjj, hij2, hD, hsd⟩ := hrel
            have D := hide hD
            have d0 : wr.cell? ⟨W.heap.size, 0, none⟩ = some (.func (.func g) #[] lb) := hD.box.cell 0
            have d1 : wr.cell? ⟨W.heap.size, 1, none⟩ = some (.func (.func sf) #[] sb) := hD.box.cell 1
            clear hD
            by_cases hle2 : i' ≤ j'
            · cases hlv2 : ltC dk[a]! dk[j']! with
              | true =>
                have L1 := hide (D.out.less HL.out hs (i := a) (j := j') (by omega) (by omega) (x := (a : Int)) (y := (j' : Int)) rfl rfl hlv2)
                go_wp2_with (go_at_fn g; (with_reducible refine L1.out.mono ?_); rintro e w' ⟨rfl, hD'⟩; have D' := hide hD'; clear hD')
                go_roundw
                case rel => exact ⟨j' - 1, by go_num, by omega, by omega, D'.out, (scanDown_go (fun x => ltC dk[a]! x) dk i' j' hle2 (by omega) hlv2).symm.trans hsd.out⟩
                case measure => simp [intOf]; omega
              | false =>
                have L1 := hide (D.out.less HL.out hs (i := a) (j := j') (by omega) (by omega) (x := (a : Int)) (y := (j' : Int)) rfl rfl hlv2)
                have hj2 : Hid (j' = scanDown (fun x => ltC dk[a]! x) dk i' j) := (scanDown_end (fun x => ltC dk[a]! x) dk i' j' (Or.inr hlv2)).symm.trans hsd.out
                have hlt3 := scans_lt ltC a i j dk (by omega) hi2.out hj2.out hle2
                clear hsd
                go_wp2_with (go_at_fn g; (with_reducible refine L1.out.mono ?_); rintro e w' ⟨rfl, hD'⟩; have D' := hide hD'; have e1 : w'.cell? ⟨W.heap.size, 1, none⟩ = some (.func (.func sf) #[] sb) := hD'.box.cell 1; clear hD')
                obtain ⟨w3, hw3, hD3⟩ := D'.out.swap HW.out hs (i := i') (j := j') (by omega) (by omega) (x := (i' : Int)) (y := (j' : Int)) rfl rfl
                rw [hw3, Oper.upon_value]
                have D3 := hide hD3
                clear hD3 hw3 e1
                go_wp2
                go_roundw
                case rel => exact ⟨i' + 1, j' - 1, swp dk i' j', by go_num, by go_num, by omega, by omega, by omega, by rw [size_swp]; exact hs, D3.out, (show Hid _ from by rw [← AE.out]; exact (partEq_go ltC a i j dk hi2.out hj2.out (by omega)).symm)⟩
                case measure => simp [intOf]; omega
            · have hj2 : Hid (j' = scanDown (fun x => ltC dk[a]! x) dk i' j) := (scanDown_end (fun x => ltC dk[a]! x) dk i' j' (Or.inl hle2)).symm.trans hsd.out
              clear hsd
              go_wp2
              go_ret
              have e := partEq_break ltC a i j dk hi2.out hj2.out (by omega)
              refine ⟨?_, ?_, D.out.but⟩
              · unfold partitionEqual; rw [← AE.out, e]; rfl
              · unfold partitionEqual; rw [← AE.out, e]; exact D.out.srt
      · have hi2 : Hid (i' = scanUp (fun x => !ltC dk[a]! x) dk j i) := (scanUp_end (fun x => !ltC dk[a]! x) dk j i' (Or.inl hle)).symm.trans hsc.out
        go_wp2
        clear d0 hsc
        go_loopw [10] (fun vj w2 => ∃ (j' : Nat), vj = .int .i64 j' ∧ j' ≤ j ∧ i' ≤ j' + 1 ∧ Dat w0 W blk g lb sf sb w2 dk ∧ Hid (scanDown (fun x => ltC dk[a]! x) dk i' j' = scanDown (fun x => ltC dk[a]! x) dk i' j)) (fun vj _ => (intOf vj).toNat)
        case atStart => exact ⟨j, rfl, Nat.le_refl _, hij', D.out, rfl⟩
        case round =>
          clear D
          obtain ⟨j', rfl, hjj, hij2, hD, hsd⟩ := hrel
          have D := hide hD
          have d0 : wr.cell? ⟨W.heap.size, 0, none⟩ = some (.func (.func g) #[] lb) := hD.box.cell 0
          have d1 : wr.cell? ⟨W.heap.size, 1, none⟩ = some (.func (.func sf) #[] sb) := hD.box.cell 1
          clear hD
          by_cases hle2 : i' ≤ j'
          · exfalso; omega
          · have hj2 : Hid (j' = scanDown (fun x => ltC dk[a]! x) dk i' j) := (scanDown_end (fun x => ltC dk[a]! x) dk i' j' (Or.inl hle2)).symm.trans hsd.out
            clear hsd
            go_wp2
            go_ret
            have e := partEq_break ltC a i j dk hi2.out hj2.out (by omega)
            refine ⟨?_, ?_, D.out.but⟩
            · unfold partitionEqual; rw [← AE.out, e]; rfl
            · unfold partitionEqual; rw [← AE.out, e]; exact D.out.srt
end Go.Proofs.YtedcbjefkhgiiabGreatDoor

/- sort.partition_func with a 'less' that may make blocks. -/
namespace Go.Proofs.YtedcbjefkhgiiabGreatDoor
open Go.RowKit Go.Sort
attribute [local go_sem ↓] Go.wp_at_zero Go.wp_at_succ
set_option linter.unusedSectionVars false
variable [Inhabited Cl]
set_option maxHeartbeats 12800000 in
set_option maxRecDepth 100000 in
theorem part_any (w0 : World) (blk n g : Nat) (lb : Array Value) (sf : Nat) (sb : Array Value) (a b pivot : Nat) (d : Array Cl) (W : World) (eg : ∀ args w, (callFunc g args).run Tryz.prog w = .ok (.enter g args) w)
    (hless : LessS w0 blk n g lb) (hswap : SwapSwapsK Tryz.prog sf sb cellL 4 blk 0 n) (hS : Srt w0 blk W d) (hd : d.size = n) (hap : a ≤ pivot) (hpb : pivot < b) (hb : b ≤ n) (hn : n ≤ 1000000) :
    Calls Tryz.prog 133 #[.agg #[.func (.func g) #[] lb, .func (.func sf) #[] sb], .int .i64 a, .int .i64 b, .int .i64 pivot] W fun e w' => e = .returned (.tuple #[.int .i64 (Sort.partition ltC d a b pivot).1, .bool (Sort.partition ltC d a b pivot).2.1]) ∧ Srt w0 blk w' (Sort.partition ltC d a b pivot).2.2 ∧ Stirred [blk] W w' := by
  have D0 := hide (dat_new hS g lb sf sb)
  obtain ⟨w3, hw3, hD3⟩ := D0.out.swap hswap hd (i := a) (j := pivot) (by omega) (by omega) (x := (a : Int)) (y := (pivot : Int)) rfl rfl
  have D3 := hide hD3
  have c1 : (W.alloc (.cells #[.func (.func g) #[] lb, .func (.func sf) #[] sb] 152)).cell? ⟨W.heap.size, 1, none⟩ = some (.func (.func sf) #[] sb) := D0.out.box.cell 1
  have HL := hide hless
  have HW := hide hswap
  clear hS hless hswap hD3 D0
  obtain ⟨i, hi⟩ : ∃ i : Nat, i = a + 1 := ⟨_, rfl⟩
  obtain ⟨j, hj⟩ : ∃ j : Nat, j = b - 1 := ⟨_, rfl⟩
  obtain ⟨dk, hdk⟩ : ∃ dk : Array Cl, dk = swp d a pivot := ⟨_, rfl⟩
  have hs : dk.size = n := by rw [hdk, size_swp]; exact hd
  have hai : a < i := by omega
  have hij : i ≤ j + 1 := by omega
  have hjb : j < b := by omega
  have D : Hid (Dat w0 W blk g lb sf sb w3 dk) := by rw [hdk]; exact D3
  have Hi : Hid (i = a + 1) := hi
  have Hj : Hid (j = b - 1) := hj
  have Hdk : Hid (dk = swp d a pivot) := hdk
  clear hi hj hdk D3
  go_enter Tryz.func133, Tryz.ntmps133
  go_wp2
  rw [show ((a : Int) + 1) = (i : Int) by have := Hi.out; omega, show ((b : Int) - 1) = (j : Int) by have := Hj.out; omega]
  clear hw3 c1
  go_loopw [10] (fun vi w1 => ∃ (i' : Nat), vi = .int .i64 i' ∧ i ≤ i' ∧ i' ≤ j + 1 ∧ Dat w0 W blk g lb sf sb w1 dk ∧ Hid (scanUp (fun x => ltC x dk[a]!) dk j i' = scanUp (fun x => ltC x dk[a]!) dk j i)) (fun vi _ => j + 1 - (intOf vi).toNat)
  case atStart => exact ⟨i, rfl, Nat.le_refl _, hij, D.out, rfl⟩
  case round =>
    clear D
    obtain ⟨i', rfl, hii, hij', hD, hsc⟩ := hrel
    have D := hide hD
    have d0 : wr.cell? ⟨W.heap.size, 0, none⟩ = some (.func (.func g) #[] lb) := hD.box.cell 0
    clear hD
    by_cases hle : i' ≤ j
    · cases hlv : ltC dk[i']! dk[a]! with
      | true =>
        have L1 := hide (D.out.less HL.out hs (i := i') (j := a) (by omega) (by omega) (x := (i' : Int)) (y := (a : Int)) rfl rfl hlv)
        go_wp2_with (go_at_fn g; (with_reducible refine L1.out.mono ?_); rintro e w' ⟨rfl, hD'⟩; have D' := hide hD'; clear hD')
        go_roundw
        case rel => exact ⟨i' + 1, by go_num, by omega, by omega, D'.out, (scanUp_go (fun x => ltC x dk[a]!) dk j i' hle hlv).symm.trans hsc.out⟩
        case measure => simp [intOf]; omega
      | false =>
        have L1 := hide (D.out.less HL.out hs (i := i') (j := a) (by omega) (by omega) (x := (i' : Int)) (y := (a : Int)) rfl rfl hlv)
        have hi2 : Hid (i' = scanUp (fun x => ltC x dk[a]!) dk j i) := (scanUp_end (fun x => ltC x dk[a]!) dk j i' (Or.inr hlv)).symm.trans hsc.out
        go_wp2_with (go_at_fn g; (with_reducible refine L1.out.mono ?_); rintro e w' ⟨rfl, hD'⟩; have D' := hide hD'; clear hD')
        clear d0 D hsc L1
        go_loopw [11] (fun vj w2 => ∃ (j' : Nat), vj = .int .i64 j' ∧ j' ≤ j ∧ i' ≤ j' + 1 ∧ Dat w0 W blk g lb sf sb w2 dk ∧ Hid (scanDown (fun x => !ltC x dk[a]!) dk i' j' = scanDown (fun x => !ltC x dk[a]!) dk i' j)) (fun vj _ => (intOf vj).toNat)
        case atStart => exact ⟨j, rfl, Nat.le_refl _, hij', D'.out, rfl⟩
        case round =>
          clear D'
          obtain ⟨j', rfl, hjj, hij2, hD, hsd⟩ := hrel
          have D := hide hD
          have d0 : wr.cell? ⟨W.heap.size, 0, none⟩ = some (.func (.func g) #[] lb) := hD.box.cell 0
          have d1 : wr.cell? ⟨W.heap.size, 1, none⟩ = some (.func (.func sf) #[] sb) := hD.box.cell 1
          clear hD
          by_cases hle2 : i' ≤ j'
          · cases hlv2 : ltC dk[j']! dk[a]! with
            | false =>
              have L1 := hide (D.out.less HL.out hs (i := j') (j := a) (by omega) (by omega) (x := (j' : Int)) (y := (a : Int)) rfl rfl hlv2)
              go_wp2_with (go_at_fn g; (with_reducible refine L1.out.mono ?_); rintro e w' ⟨rfl, hD'⟩; have D' := hide hD'; clear hD')
              go_roundw
              case rel => exact ⟨j' - 1, by go_num, by omega, by omega, D'.out, (scanDown_go (fun x => !ltC x dk[a]!) dk i' j' hle2 (by omega) (by simp [hlv2])).symm.trans hsd.out⟩
              case measure => simp [intOf]; omega
            | true =>
              have L1 := hide (D.out.less HL.out hs (i := j') (j := a) (by omega) (by omega) (x := (j' : Int)) (y := (a : Int)) rfl rfl hlv2)
              have hj2 : Hid (j' = scanDown (fun x => !ltC x dk[a]!) dk i' j) := (scanDown_end (fun x => !ltC x dk[a]!) dk i' j' (Or.inr (by simp [hlv2]))).symm.trans hsd.out
              have hlt3 := part_scans_lt ltC a i j dk (by omega) hi2.out hj2.out hle2
              clear hsd
              go_wp2_with (go_at_fn g; (with_reducible refine L1.out.mono ?_); rintro e w' ⟨rfl, hD'⟩; have D' := hide hD'; have e1 : w'.cell? ⟨W.heap.size, 1, none⟩ = some (.func (.func sf) #[] sb) := hD'.box.cell 1; clear hD')
              obtain ⟨w3, hw3, hD3⟩ := D'.out.swap HW.out hs (i := i') (j := j') (by omega) (by omega) (x := (i' : Int)) (y := (j' : Int)) rfl rfl
              rw [hw3, Oper.upon_value]
              have D3 := hide hD3
              clear hD3 hw3 e1
              go_wp2
              try rw [decide_eq_false (show ¬ j' < i' by omega)]
              obtain ⟨I0, hI0⟩ : ∃ I0 : Nat, I0 = i' + 1 := ⟨_, rfl⟩
              obtain ⟨J0, hJ0⟩ : ∃ J0 : Nat, J0 = j' - 1 := ⟨_, rfl⟩
              obtain ⟨E0, hE0⟩ : ∃ E0 : Array Cl, E0 = swp dk i' j' := ⟨_, rfl⟩
              have PF : Hid (Sort.partition ltC d a b pivot = ((partLoop ltC a I0 J0 E0).1, false, swp (partLoop ltC a I0 J0 E0).2 (partLoop ltC a I0 J0 E0).1 a)) := by
                rw [hI0, hJ0, hE0]; exact part_first_go ltC d a b pivot Hi.out Hj.out Hdk.out hi2.out hj2.out (by omega)
              go_loopw [10, 11] (fun vi vj wr => ∃ (i j : Nat) (dk : Array Cl), vi = .int .i64 i ∧ vj = .int .i64 j ∧ a < i ∧ i ≤ j + 1 ∧ j < b ∧ dk.size = n ∧ Dat w0 W blk g lb sf sb wr dk ∧ Hid (partLoop ltC a i j dk = partLoop ltC a I0 J0 E0)) (fun vi vj _ => (intOf vj).toNat + 1 - (intOf vi).toNat)
              case atStart => exact ⟨i' + 1, j' - 1, swp dk i' j', by go_num, by go_num, by omega, by omega, by omega, by rw [size_swp]; exact hs, D3.out, (show Hid _ from by rw [hI0, hJ0, hE0]; exact rfl)⟩
              case round =>
                clear hI0 hJ0 hE0 hj2 hi2 hlt3 d0 d1 L1 D D' D3 Hi Hj Hdk hs hij hai hjb hle hle2 hlv hlv2 hii hij' hjj hij2
                obtain ⟨i, j, dk, rfl, rfl, hai, hij, hjb, hs, hD, AE⟩ := hrel
                have D := hide hD
                clear hD
                go_wp2
                go_loopw [10] (fun vi w1 => ∃ (i' : Nat), vi = .int .i64 i' ∧ i ≤ i' ∧ i' ≤ j + 1 ∧ Dat w0 W blk g lb sf sb w1 dk ∧ Hid (scanUp (fun x => ltC x dk[a]!) dk j i' = scanUp (fun x => ltC x dk[a]!) dk j i)) (fun vi _ => j + 1 - (intOf vi).toNat)
                case atStart => exact ⟨i, rfl, Nat.le_refl _, hij, D.out, rfl⟩
                case round =>
                  clear D
                  obtain ⟨i', rfl, hii, hij', hD, hsc⟩ := hrel
                  have D := hide hD
                  have d0 : wr.cell? ⟨W.heap.size, 0, none⟩ = some (.func (.func g) #[] lb) := hD.box.cell 0
                  clear hD
                  by_cases hle : i' ≤ j
                  · cases hlv : ltC dk[i']! dk[a]! with
                    | true =>
                      have L1 := hide (D.out.less HL.out hs (i := i') (j := a) (by omega) (by omega) (x := (i' : Int)) (y := (a : Int)) rfl rfl hlv)
                      go_wp2_with (go_at_fn g; (with_reducible refine L1.out.mono ?_); rintro e w' ⟨rfl, hD'⟩; have D' := hide hD'; clear hD')
                      go_roundw
                      case rel => exact ⟨i' + 1, by go_num, by omega, by omega, D'.out, (scanUp_go (fun x => ltC x dk[a]!) dk j i' hle hlv).symm.trans hsc.out⟩
                      case measure => simp [intOf]; omega
                    | false =>
                      have L1 := hide (D.out.less HL.out hs (i := i') (j := a) (by omega) (by omega) (x := (i' : Int)) (y := (a : Int)) rfl rfl hlv)
                      have hi2 : Hid (i' = scanUp (fun x => ltC x dk[a]!) dk j i) := (scanUp_end (fun x => ltC x dk[a]!) dk j i' (Or.inr hlv)).symm.trans hsc.out
                      go_wp2_with (go_at_fn g; (with_reducible refine L1.out.mono ?_); rintro e w' ⟨rfl, hD'⟩; have D' := hide hD'; clear hD')
                      clear d0 D hsc L1
                      go_loopw [11] (fun vj w2 => ∃ (j' : Nat), vj = .int .i64 j' ∧ j' ≤ j ∧ i' ≤ j' + 1 ∧ Dat w0 W blk g lb sf sb w2 dk ∧ Hid (scanDown (fun x => !ltC x dk[a]!) dk i' j' = scanDown (fun x => !ltC x dk[a]!) dk i' j)) (fun vj _ => (intOf vj).toNat)
                      case atStart => exact ⟨j, rfl, Nat.le_refl _, hij', D'.out, rfl⟩
                      case round =>
                        clear D'
                        obtain ⟨j', rfl, hjj, hij2, hD, hsd⟩ := hrel
                        have D := hide hD
                        have d0 : wr.cell? ⟨W.heap.size, 0, none⟩ = some (.func (.func g) #[] lb) := hD.box.cell 0
                        have d1 : wr.cell? ⟨W.heap.size, 1, none⟩ = some (.func (.func sf) #[] sb) := hD.box.cell 1
                        clear hD
                        by_cases hle2 : i' ≤ j'
                        · cases hlv2 : ltC dk[j']! dk[a]! with
                          | false =>
                            have L1 := hide (D.out.less HL.out hs (i := j') (j := a) (by omega) (by omega) (x := (j' : Int)) (y := (a : Int)) rfl rfl hlv2)
                            go_wp2_with (go_at_fn g; (with_reducible refine L1.out.mono ?_); rintro e w' ⟨rfl, hD'⟩; have D' := hide hD'; clear hD')
                            go_roundw
                            case rel => exact ⟨j' - 1, by go_num, by omega, by omega, D'.out, (scanDown_go (fun x => !ltC x dk[a]!) dk i' j' hle2 (by omega) (by simp [hlv2])).symm.trans hsd.out⟩
                            case measure => simp [intOf]; omega
                          | true =>
                            have L1 := hide (D.out.less HL.out hs (i := j') (j := a) (by omega) (by omega) (x := (j' : Int)) (y := (a : Int)) rfl rfl hlv2)
                            have hj2 : Hid (j' = scanDown (fun x => !ltC x dk[a]!) dk i' j) := (scanDown_end (fun x => !ltC x dk[a]!) dk i' j' (Or.inr (by simp [hlv2]))).symm.trans hsd.out
                            have hlt3 := part_scans_lt ltC a i j dk (by omega) hi2.out hj2.out hle2
                            clear hsd
                            go_wp2_with (go_at_fn g; (with_reducible refine L1.out.mono ?_); rintro e w' ⟨rfl, hD'⟩; have D' := hide hD'; have e1 : w'.cell? ⟨W.heap.size, 1, none⟩ = some (.func (.func sf) #[] sb) := hD'.box.cell 1; clear hD')
                            obtain ⟨w3, hw3, hD3⟩ := D'.out.swap HW.out hs (i := i') (j := j') (by omega) (by omega) (x := (i' : Int)) (y := (j' : Int)) rfl rfl
                            rw [hw3, Oper.upon_value]
                            have D3 := hide hD3
                            clear hD3 hw3 e1
                            go_wp2
                            go_roundw
                            case rel => exact ⟨i' + 1, j' - 1, swp dk i' j', by go_num, by go_num, by omega, by omega, by omega, by rw [size_swp]; exact hs, D3.out, (show Hid _ from by rw [← AE.out]; exact (part_go ltC a i j dk hi2.out hj2.out (by omega)).symm)⟩
                            case measure => simp [intOf]; omega
                        · have hj2 : Hid (j' = scanDown (fun x => !ltC x dk[a]!) dk i' j) := (scanDown_end (fun x => !ltC x dk[a]!) dk i' j' (Or.inl hle2)).symm.trans hsd.out
                          clear hsd
                          obtain ⟨w3, hw3, hD3⟩ := D.out.swap HW.out hs (i := j') (j := a) (by omega) (by omega) (x := (j' : Int)) (y := (a : Int)) rfl rfl
                          have D3 := hide hD3
                          clear hD3
                          go_wp2
                          go_ret2
                          have e := part_break ltC a i j dk hi2.out hj2.out (by omega)
                          rw [PF.out, ← AE.out, e]
                          exact ⟨rfl, D3.out.srt, D3.out.but⟩
                  · have hi2 : Hid (i' = scanUp (fun x => ltC x dk[a]!) dk j i) := (scanUp_end (fun x => ltC x dk[a]!) dk j i' (Or.inl hle)).symm.trans hsc.out
                    go_wp2
                    clear d0 hsc
                    go_loopw [11] (fun vj w2 => ∃ (j' : Nat), vj = .int .i64 j' ∧ j' ≤ j ∧ i' ≤ j' + 1 ∧ Dat w0 W blk g lb sf sb w2 dk ∧ Hid (scanDown (fun x => !ltC x dk[a]!) dk i' j' = scanDown (fun x => !ltC x dk[a]!) dk i' j)) (fun vj _ => (intOf vj).toNat)
                    case atStart => exact ⟨j, rfl, Nat.le_refl _, hij', D.out, rfl⟩
                    case round =>
                      clear D
                      obtain ⟨j', rfl, hjj, hij2, hD, hsd⟩ := hrel
                      have D := hide hD
                      have d0 : wr.cell? ⟨W.heap.size, 0, none⟩ = some (.func (.func g) #[] lb) := hD.box.cell 0
                      have d1 : wr.cell? ⟨W.heap.size, 1, none⟩ = some (.func (.func sf) #[] sb) := hD.box.cell 1
                      clear hD
                      by_cases hle2 : i' ≤ j'
                      · exfalso; omega
                      · have hj2 : Hid (j' = scanDown (fun x => !ltC x dk[a]!) dk i' j) := (scanDown_end (fun x => !ltC x dk[a]!) dk i' j' (Or.inl hle2)).symm.trans hsd.out
                        clear hsd
                        obtain ⟨w3, hw3, hD3⟩ := D.out.swap HW.out hs (i := j') (j := a) (by omega) (by omega) (x := (j' : Int)) (y := (a : Int)) rfl rfl
                        have D3 := hide hD3
                        clear hD3
                        go_wp2
                        go_ret2
                        have e := part_break ltC a i j dk hi2.out hj2.out (by omega)
                        rw [PF.out, ← AE.out, e]
                        exact ⟨rfl, D3.out.srt, D3.out.but⟩
          · have hj2 : Hid (j' = scanDown (fun x => !ltC x dk[a]!) dk i' j) := (scanDown_end (fun x => !ltC x dk[a]!) dk i' j' (Or.inl hle2)).symm.trans hsd.out
            clear hsd
            obtain ⟨w3, hw3, hD3⟩ := D.out.swap HW.out hs (i := j') (j := a) (by omega) (by omega) (x := (j' : Int)) (y := (a : Int)) rfl rfl
            have D3 := hide hD3
            clear hD3
            go_wp2
            go_ret2
            have e := part_first_break ltC d a b pivot Hi.out Hj.out Hdk.out hi2.out hj2.out (by omega)
            rw [e]
            exact ⟨rfl, D3.out.srt, D3.out.but⟩
    · have hi2 : Hid (i' = scanUp (fun x => ltC x dk[a]!) dk j i) := (scanUp_end (fun x => ltC x dk[a]!) dk j i' (Or.inl hle)).symm.trans hsc.out
      go_wp2
      clear d0 hsc
      go_loopw [11] (fun vj w2 => ∃ (j' : Nat), vj = .int .i64 j' ∧ j' ≤ j ∧ i' ≤ j' + 1 ∧ Dat w0 W blk g lb sf sb w2 dk ∧ Hid (scanDown (fun x => !ltC x dk[a]!) dk i' j' = scanDown (fun x => !ltC x dk[a]!) dk i' j)) (fun vj _ => (intOf vj).toNat)
      case atStart => exact ⟨j, rfl, Nat.le_refl _, hij', D.out, rfl⟩
      case round =>
        clear D
        obtain ⟨j', rfl, hjj, hij2, hD, hsd⟩ := hrel
        have D := hide hD
        have d0 : wr.cell? ⟨W.heap.size, 0, none⟩ = some (.func (.func g) #[] lb) := hD.box.cell 0
        have d1 : wr.cell? ⟨W.heap.size, 1, none⟩ = some (.func (.func sf) #[] sb) := hD.box.cell 1
        clear hD
        by_cases hle2 : i' ≤ j'
        · exfalso; omega
        · have hj2 : Hid (j' = scanDown (fun x => !ltC x dk[a]!) dk i' j) := (scanDown_end (fun x => !ltC x dk[a]!) dk i' j' (Or.inl hle2)).symm.trans hsd.out
          clear hsd
          obtain ⟨w3, hw3, hD3⟩ := D.out.swap HW.out hs (i := j') (j := a) (by omega) (by omega) (x := (j' : Int)) (y := (a : Int)) rfl rfl
          have D3 := hide hD3
          clear hD3
          go_wp2
          go_ret2
          have e := part_first_break ltC d a b pivot Hi.out Hj.out Hdk.out hi2.out hj2.out (by omega)
          rw [e]
          exact ⟨rfl, D3.out.srt, D3.out.but⟩
end Go.Proofs.YtedcbjefkhgiiabGreatDoor
