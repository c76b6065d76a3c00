/- Texts of this proof, one behind the other. -/
import Derived.Sort.Walk13
import Derived.Sort.AssemblyPlain
import Derived.Deep.RegionHeld3
import Derived.Test.YtedcbjefkhgiiabGreatDoorPart22
/- sort.pdqsort_func with a 'less' that may make blocks, below 50 elements. -/
namespace Go.Proofs.YtedcbjefkhgiiabGreatDoor
open Go.RowKit Go.Sort
attribute [local go_sem ↓] Go.wp_at_zero Go.wp_at_succ
set_option linter.unusedSectionVars false
variable [Inhabited Cl]
set_option maxHeartbeats 12800000 in
set_option maxRecDepth 1000000 in
theorem pdq_any (w0 : World) (blk n g : Nat) (lb : Array Value) (sf : Nat) (sb : Array Value) (eg : ∀ args w, (callFunc g args).run Tryz.prog w = .ok (.enter g args) w)
    (hless : LessS w0 blk n g lb) (hswap : SwapSwapsK Tryz.prog sf sb cellL 4 blk 0 n) (hn : n < 50) :
    ∀ (N a b limit : Nat) (d : Array Cl) (W : World), b - a < N → Srt w0 blk W d → d.size = n → a ≤ b → b ≤ n → limit < 1000000 → Go.Sort.Below ltC a b d →
    Calls Tryz.prog 87 #[.agg #[.func (.func g) #[] lb, .func (.func sf) #[] sb], .int .i64 a, .int .i64 b, .int .i64 limit] W fun e w' => e = .returned (.tuple #[]) ∧ Srt w0 blk w' (pdq ltC d a b limit true true) ∧ Stirred [blk] W w' := by
  have hO := hide (swo_ltC : SWO ltC)
  have HL := hide hless
  have CI := hide (fun a b d wx hs hd h1 h2 => insertion_any w0 blk n g lb sf sb a b d wx eg hless hswap hs hd h1 h2 (by omega))
  have CH := hide (fun a b d wx hs hd h1 h2 => heap_any w0 blk n g lb sf sb a b d wx eg hless hswap hs hd h1 h2 (by omega))
  have CB := hide (fun a b d wx hs hd h1 h2 => breaks_any w0 blk n g lb sf sb a b d wx hswap hs hd h1 h2 (by omega))
  have CP := hide (fun a l d wx hs hd h1 h2 h3 => pivot_any w0 blk n g lb sf sb a l d wx eg hless hs hd h1 h2 h3 (by omega))
  have CR := hide (fun a b d wx hs hd h1 h2 => reverse_any w0 blk n g lb sf sb a b d wx hswap hs hd h1 h2 (by omega))
  have CS := hide (fun a b d wx hs hd h1 h2 h3 => partial_any w0 blk n g lb sf sb a b d wx eg hless hs hd h1 h2 h3 (by omega))
  have CE := hide (fun a b p d wx hs hd h1 h2 h3 => partEq_any w0 blk n g lb sf sb a b p d wx eg hless hswap hs hd h1 h2 h3 (by omega))
  have CT := hide (fun a b p d wx hs hd h1 h2 h3 => part_any w0 blk n g lb sf sb a b p d wx eg hless hswap hs hd h1 h2 h3 (by omega))
  clear hless hswap
  intro N
  induction N with
  | zero => intro _ _ _ _ _ h; exact absurd h (Nat.not_lt_zero _)
  | succ N ih =>
    intro a b limit d W hN hS hd hab hb hlimit hBel0
    have IH := hide ih
    have D0 := hide (dat_new hS g lb sf sb)
    have B0 := hide hBel0
    clear ih hS hBel0
    go_enter Tryz.func87, Tryz.ntmps87
    go_wp2
    go_loopg [1, 2, 3, 8, 9] (b - a) (fun kx s1 s2 s3 s8 s9 wr => ∃ (a' b' lim : Nat) (wb wp : Bool) (dk : Array Cl), s1 = .int .i64 a' ∧ s2 = .int .i64 b' ∧ s3 = .int .i64 lim ∧ s8 = .bool wb ∧ s9 = .bool wp ∧
      a' ≤ b' ∧ b' ≤ n ∧ b' - a' ≤ kx ∧ kx ≤ b - a ∧ lim ≤ limit ∧ dk.size = n ∧ Hid (Go.Sort.Below ltC a' b' dk) ∧ Dat w0 W blk g lb sf sb wr dk ∧ Hid (pdq ltC dk a' b' lim wb wp = pdq ltC d a b limit true true))
    case atStart => exact ⟨a, b, limit, true, true, d, rfl, rfl, rfl, rfl, rfl, hab, hb, Nat.le_refl _, Nat.le_refl _, Nat.le_refl _, hd, B0, D0.out, rfl⟩
    case round =>
      clear D0 B0
      obtain ⟨a', b', lim, wb, wp, dk, rfl, rfl, rfl, rfl, rfl, hab', hb', hkx, hkN, hlim, hds, HBel, hD, A⟩ := hrel
      have D := hide hD
      have x0 : wr.cell? ⟨W.heap.size, 0, none⟩ = some (.func (.func g) #[] lb) := hD.box.cell 0
      have x1 : wr.cell? ⟨W.heap.size, 1, none⟩ = some (.func (.func sf) #[] sb) := hD.box.cell 1
      clear hD
      by_cases h12 : b' - a' ≤ 12
      · have h12z : (b' : Int) - (a' : Int) ≤ 12 := by omega
        have hc := hide (CI.out a' b' dk wr D.out.srt hds hab' hb')
        go_wp2_with (go_at_call 126; (with_reducible refine hc.out.mono ?_); rintro e w1 ⟨rfl, k1, t1⟩; have D1 := hide (D.out.call k1 t1); clear k1 t1)
        (try simp only [Exit.inBlock, Exit.then]); refine bodyPost_ret (results_none rfl _ _ _) rfl ?_
        refine ⟨rfl, ?_, D1.out.but⟩
        rw [← A.out, pdq_small h12]
        exact D1.out.srt
      · have h12z : ¬ ((b' : Int) - (a' : Int) ≤ 12) := by omega
        by_cases hl0 : lim = 0
        · subst hl0
          have hc := hide (CH.out a' b' dk wr D.out.srt hds hab' hb')
          go_wp2_with (go_at_call 127; (with_reducible refine hc.out.mono ?_); rintro e w1 ⟨rfl, k1, t1⟩; have D1 := hide (D.out.call k1 t1); clear k1 t1)
          (try simp only [Exit.inBlock, Exit.then]); refine bodyPost_ret (results_none rfl _ _ _) rfl ?_
          refine ⟨rfl, ?_, D1.out.but⟩
          rw [← A.out, pdq_heap h12 rfl]
          exact D1.out.srt
        · have hl0z : ¬ ((lim : Int) = 0) := by omega
          have hF := rd_facts (lt := ltC) (limit := lim) (wb := wb) (wp := wp) hO.out partialInsertionSort_holds reverseRange_holds (show a' < b' by omega) (show b' ≤ dk.size by omega) HBel.out
          obtain ⟨s1, B1, hc1, s2, B2, hpv, s3, B3⟩ := hF
          have HB3 := hide B3
          clear B1 B2 B3
          go_upto_if 35 with fail
          go_cut [3] from 19 (fun s3 wc => s3 = .int .i64 (rd ltC dk a' b' lim wb wp).lim ∧ Dat w0 W blk g lb sf sb wc (rd ltC dk a' b' lim wb wp).d1)
          case first =>
            cases wb
            · have hc := hide (CB.out a' b' dk wr D.out.srt hds hab' hb')
              go_wp2_with (go_at_call 128; (with_reducible refine hc.out.mono ?_); rintro e w1 ⟨rfl, k1, t1⟩; have D1 := hide (D.out.call k1 t1); clear k1 t1)
              go_meet
              case rel =>
                refine ⟨?_, D1.out⟩
                show Value.int .i64 ((lim : Int) - 1) = Value.int .i64 ((lim - 1 : Nat) : Int)
                congr 1
                omega
            · go_wp2_with fail
              go_meet
              case rel => exact ⟨rfl, D.out⟩
          case rest =>
            clear D x0 x1
            obtain ⟨rfl, hD⟩ := hcut
            have D := hide hD
            have y0 : wc.cell? ⟨W.heap.size, 0, none⟩ = some (.func (.func g) #[] lb) := hD.box.cell 0
            have y1 : wc.cell? ⟨W.heap.size, 1, none⟩ = some (.func (.func sf) #[] sb) := hD.box.cell 1
            clear hD
            have hcp := CP.out a' (b' - a') (rd ltC dk a' b' lim wb wp).d1 wc D.out.srt (s1.trans hds) (by omega) (by omega) (by omega)
            rw [show a' + (b' - a') = b' by omega, show (a' : Int) + ((b' - a' : Nat) : Int) = (b' : Int) by omega] at hcp
            have hc17 : Hid (Calls Tryz.prog 129 #[.agg #[.func (.func g) #[] lb, .func (.func sf) #[] sb], .int .i64 a', .int .i64 b'] wc fun e w' => e = .returned (.tuple #[.int .i64 (rd ltC dk a' b' lim wb wp).c.1, .int .i64 (hintCode (rd ltC dk a' b' lim wb wp).c.2)]) ∧ Srt w0 blk w' (rd ltC dk a' b' lim wb wp).d1 ∧ Go.RowKit.Below wc.heap.size wc w') := hcp
            clear hcp
            go_upto_if 50 with (go_at_call 129; (with_reducible refine hc17.out.mono ?_); rintro e w2 ⟨rfl, k2, t2⟩; have D2 := hide (D.out.still t2); clear k2 t2)
            have z0 : w2.cell? ⟨W.heap.size, 0, none⟩ = some (.func (.func g) #[] lb) := D2.out.box.cell 0
            have z1 : w2.cell? ⟨W.heap.size, 1, none⟩ = some (.func (.func sf) #[] sb) := D2.out.box.cell 1
            clear y0 y1 D hc17
            go_cut [11, 12] from 19 (fun s11 s12 wc => s11 = .int .i64 (rd ltC dk a' b' lim wb wp).pivot ∧ s12 = .int .i64 (hintCode (rd ltC dk a' b' lim wb wp).hint) ∧ Dat w0 W blk g lb sf sb wc (rd ltC dk a' b' lim wb wp).d2)
            case first =>
              by_cases hh : (rd ltC dk a' b' lim wb wp).c.2 = .decreasing
              · have hcode : hintCode (rd ltC dk a' b' lim wb wp).c.2 = 2 := by rw [hh]; rfl
                obtain ⟨e2, epv, eht⟩ := rd_dec hh
                have hc18 := hide (CR.out a' b' (rd ltC dk a' b' lim wb wp).d1 w2 D2.out.srt (s1.trans hds) (by omega) (by omega))
                go_wp2_with (go_at_call 130; (with_reducible refine hc18.out.mono ?_); rintro e w3 ⟨rfl, k3, t3⟩; have D3 := hide (D2.out.call k3 t3); clear k3 t3)
                go_meet
                case rel =>
                  refine ⟨?_, by rw [eht]; rfl, by rw [e2]; exact D3.out⟩
                  rw [epv]
                  congr 1
                  omega
              · have hcode : ¬ (hintCode (rd ltC dk a' b' lim wb wp).c.2 = 2) := fun h => hh (hintCode_two h)
                obtain ⟨e2, epv, eht⟩ := rd_not hh
                go_wp2_with fail
                go_meet
                case rel => exact ⟨by rw [epv], by rw [eht], by rw [e2]; exact D2.out⟩
            case rest =>
              clear z0 z1 D2
              obtain ⟨rfl, rfl, hD⟩ := hcut
              have D := hide hD
              have v0 : wc.cell? ⟨W.heap.size, 0, none⟩ = some (.func (.func g) #[] lb) := hD.box.cell 0
              have v1 : wc.cell? ⟨W.heap.size, 1, none⟩ = some (.func (.func sf) #[] sb) := hD.box.cell 1
              clear hD
              go_upto_region 16 with fail
              go_cut [12, 68] from 19 (fun s12 s68 wx => s12 = .int .i64 (hintCode (rd ltC dk a' b' lim wb wp).hint) ∧ s68 = .bool (wb && wp && decide ((rd ltC dk a' b' lim wb wp).hint = .increasing)) ∧ wx = wc)
              case first =>
                cases wb <;> cases wp <;> cases hh3 : (rd ltC dk a' b' lim _ _).hint <;>
                  (have hcode3 := congrArg hintCode hh3
                   simp only [hintCode] at hcode3
                   go_wp2_with fail
                   go_meet
                   exact ⟨by simp [hh3, hintCode], by simp [hh3, hintCode], rfl⟩)
              case rest =>
                obtain ⟨rfl, rfl, rfl⟩ := hcut
                go_upto_if 68 with fail
                go_cut [] from 19 (fun wx => (rd ltC dk a' b' lim wb wp).pi.2 = false ∧ Dat w0 W blk g lb sf sb wx (rd ltC dk a' b' lim wb wp).pi.1)
                case first =>
                  cases h68 : (wb && wp && decide ((rd ltC dk a' b' lim wb wp).hint = .increasing))
                  · have epi := rd_pi_no h68
                    go_wp2_with fail
                    go_meet
                    case rel => exact ⟨by rw [epi], by rw [epi]; exact D.out⟩
                  · have epi := rd_pi_yes h68
                    have hc19 := CS.out a' b' (rd ltC dk a' b' lim wb wp).d2 wc D.out.srt (s2.trans hds) (by omega) (by omega) (by omega)
                    rw [← epi] at hc19
                    have HC := hide hc19
                    clear hc19
                    go_wp2_with (go_at_call 131; (with_reducible refine HC.out.mono ?_); rintro e w4 ⟨rfl, k4, t4⟩; have D4 := hide (D.out.call k4 t4); clear k4 t4)
                    all_goals first
                      | (have hp2 : (rd ltC dk a' b' lim wb wp).pi.2 = false := by rw [epi]; assumption
                         go_meet
                         exact ⟨hp2, D4.out⟩)
                      | (have hp2 : (rd ltC dk a' b' lim wb wp).pi.2 = true := by rw [epi]; assumption
                         (try simp only [Exit.inBlock, Exit.then]); refine bodyPost_ret (results_none rfl _ _ _) rfl ?_
                         refine ⟨rfl, ?_, D4.out.but⟩
                         rw [← A.out, pdq_done h12 hl0 hp2]
                         exact D4.out.srt)
                case rest =>
                  clear D v0 v1
                  obtain ⟨hp2, hD⟩ := hcut
                  have D := hide hD
                  have t0 : wc.cell? ⟨W.heap.size, 0, none⟩ = some (.func (.func g) #[] lb) := hD.box.cell 0
                  have t1 : wc.cell? ⟨W.heap.size, 1, none⟩ = some (.func (.func sf) #[] sb) := hD.box.cell 1
                  clear hD
                  go_upto_region 18 with fail
                  go_cut [83] from 19 (fun s83 wx => s83 = .bool (decide (a' > 0) && !ltC (rd ltC dk a' b' lim wb wp).pi.1[a' - 1]! (rd ltC dk a' b' lim wb wp).pi.1[(rd ltC dk a' b' lim wb wp).pivot]!) ∧ Dat w0 W blk g lb sf sb wx (rd ltC dk a' b' lim wb wp).pi.1)
                  case first =>
                    rcases Nat.eq_zero_or_pos a' with ha0 | ha0
                    · have ha0z : decide ((a' : Int) > 0) = false := decide_eq_false (by omega)
                      go_wp2_with fail
                      go_meet
                      case rel => exact ⟨by simp [ha0], D.out⟩
                    · have ha0z : (a' : Int) > 0 := by omega
                      cases hlv : ltC (rd ltC dk a' b' lim wb wp).pi.1[a' - 1]! (rd ltC dk a' b' lim wb wp).pi.1[(rd ltC dk a' b' lim wb wp).pivot]! <;>
                        (have L1 := hide (D.out.less HL.out (s3.trans hds) (i := a' - 1) (j := (rd ltC dk a' b' lim wb wp).pivot) (by omega) (by omega) (x := (a' : Int) - 1) (y := ((rd ltC dk a' b' lim wb wp).pivot : Int)) (by omega) rfl hlv)
                         go_wp2_with (go_at_fn g; (with_reducible refine L1.out.mono ?_); rintro e w' ⟨rfl, hD'⟩; have D' := hide hD'; clear hD')
                         go_meet
                         exact ⟨by simp [ha0, hlv], D'.out⟩)
                  case rest =>
                    clear D t0 t1
                    obtain ⟨rfl, hD⟩ := hcut
                    have D := hide hD
                    have q0 : wc.cell? ⟨W.heap.size, 0, none⟩ = some (.func (.func g) #[] lb) := hD.box.cell 0
                    have q1 : wc.cell? ⟨W.heap.size, 1, none⟩ = some (.func (.func sf) #[] sb) := hD.box.cell 1
                    clear hD
                    cases h87 : (decide (a' > 0) && !ltC (rd ltC dk a' b' lim wb wp).pi.1[a' - 1]! (rd ltC dk a' b' lim wb wp).pi.1[(rd ltC dk a' b' lim wb wp).pivot]!)
                    · obtain ⟨mid, ap, d4, hx⟩ : ∃ mid ap d4, Sort.partition ltC (rd ltC dk a' b' lim wb wp).pi.1 a' b' (rd ltC dk a' b' lim wb wp).pivot = (mid, ap, d4) := ⟨(Sort.partition ltC (rd ltC dk a' b' lim wb wp).pi.1 a' b' (rd ltC dk a' b' lim wb wp).pivot).1, (Sort.partition ltC (rd ltC dk a' b' lim wb wp).pi.1 a' b' (rd ltC dk a' b' lim wb wp).pivot).2.1, (Sort.partition ltC (rd ltC dk a' b' lim wb wp).pi.1 a' b' (rd ltC dk a' b' lim wb wp).pivot).2.2, rfl⟩
                      obtain ⟨r1, r2, r3, r4, r5, r6, r7⟩ := round_part hO.out (partition_holds ltC) hpv.1 hpv.2 (show b' ≤ (rd ltC dk a' b' lim wb wp).pi.1.size by omega) HB3.out hx
                      have hc22 := CT.out a' b' (rd ltC dk a' b' lim wb wp).pivot (rd ltC dk a' b' lim wb wp).pi.1 wc D.out.srt (s3.trans hds) hpv.1 hpv.2 (by omega)
                      rw [hx] at hc22
                      have HC := hide hc22
                      have X : Hid (Sort.partition ltC (rd ltC dk a' b' lim wb wp).pi.1 a' b' (rd ltC dk a' b' lim wb wp).pivot = (mid, ap, d4)) := hx
                      clear hx hc22
                      go_upto_if 109 with (go_at_call 133; (with_reducible refine HC.out.mono ?_); rintro e w7 ⟨rfl, k7, t7⟩; have D7 := hide (D.out.call k7 t7); clear k7 t7)
                      have hx := X.out
                      have hs4 : d4.size = n := r3.trans (s3.trans hds)
                      clear q0 q1 D HC
                      have p0 : w7.cell? ⟨W.heap.size, 0, none⟩ = some (.func (.func g) #[] lb) := D7.out.box.cell 0
                      have p1 : w7.cell? ⟨W.heap.size, 1, none⟩ = some (.func (.func sf) #[] sb) := D7.out.box.cell 1
                      have R4 := hide r4
                      have R5 := hide r5
                      have R6 := hide r6
                      have R7 := hide r7
                      clear r4 r5 r6 r7
                      by_cases h4 : mid - a' < b' - mid
                      · have h4z : (mid : Int) - (a' : Int) < (b' : Int) - (mid : Int) := by omega
                        have hih := hide (IH.out a' mid (rd ltC dk a' b' lim wb wp).lim d4 w7 (by omega) D7.out.srt hs4 (by omega) (by omega) (Nat.lt_of_le_of_lt (Nat.le_trans rd_lim_le hlim) hlimit) R4.out)
                        obtain ⟨pL, sL⟩ := pdq_sorts ltC hO.out d4 a' mid (rd ltC dk a' b' lim wb wp).lim true true (by omega) (by omega) R4.out
                        have PL := hide pL
                        have SL := hide sL
                        clear pL sL
                        go_wp2_with (go_at_call 87; (with_reducible refine hih.out.mono ?_); rintro e w8 ⟨rfl, k8, t8⟩; have D8 := hide (D7.out.call k8 t8); clear k8 t8)
                        go_roundg (b' - (mid + 1))
                        case measure => omega
                        case rel =>
                          refine ⟨mid + 1, b', (rd ltC dk a' b' lim wb wp).lim, decide (mid - a' ≥ (b' - a') / 8), ap, pdq ltC d4 a' mid (rd ltC dk a' b' lim wb wp).lim true true, by simp, rfl, rfl, ?_, rfl, by omega, by omega, Nat.le_refl _, by omega, Nat.le_trans rd_lim_le hlim, by rw [PL.out.1, hs4], (R6.out _ PL.out SL.out).1, D8.out, ?_⟩
                          · exact congrArg Value.bool (eighth (by omega) (by omega))
                          · show _ = _
                            rw [← A.out, pdq_left h12 hl0 hp2 h87 (by rw [hx]; exact ⟨r1, r2⟩) (by rw [hx]; exact h4), hx]
                      · have h4z : ¬ ((mid : Int) - (a' : Int) < (b' : Int) - (mid : Int)) := by omega
                        have hih0 := IH.out (mid + 1) b' (rd ltC dk a' b' lim wb wp).lim d4 w7 (by omega) D7.out.srt hs4 (by omega) (by omega) (Nat.lt_of_le_of_lt (Nat.le_trans rd_lim_le hlim) hlimit) R5.out
                        rw [show ((mid + 1 : Nat) : Int) = (mid : Int) + 1 by omega] at hih0
                        have hih := hide hih0
                        obtain ⟨pL, sL⟩ := pdq_sorts ltC hO.out d4 (mid + 1) b' (rd ltC dk a' b' lim wb wp).lim true true (by omega) (by omega) R5.out
                        have PL := hide pL
                        have SL := hide sL
                        clear pL sL hih0
                        go_wp2_with (go_at_call 87; (with_reducible refine hih.out.mono ?_); rintro e w8 ⟨rfl, k8, t8⟩; have D8 := hide (D7.out.call k8 t8); clear k8 t8)
                        go_roundg (mid - a')
                        case measure => omega
                        case rel =>
                          refine ⟨a', mid, (rd ltC dk a' b' lim wb wp).lim, decide (b' - mid ≥ (b' - a') / 8), ap, pdq ltC d4 (mid + 1) b' (rd ltC dk a' b' lim wb wp).lim true true, rfl, rfl, rfl, ?_, rfl, by omega, by omega, Nat.le_refl _, by omega, Nat.le_trans rd_lim_le hlim, by rw [PL.out.1, hs4], (R7.out _ PL.out SL.out).1, D8.out, ?_⟩
                          · exact congrArg Value.bool (eighth (by omega) (by omega))
                          · show _ = _
                            rw [← A.out, pdq_right h12 hl0 hp2 h87 (by rw [hx]; exact ⟨r1, r2⟩) (by rw [hx]; exact h4), hx]
                    · have h87' := h87
                      simp only [Bool.and_eq_true, decide_eq_true_eq, Bool.not_eq_true'] at h87'
                      obtain ⟨mid, d4, hx⟩ : ∃ mid d4, partitionEqual ltC (rd ltC dk a' b' lim wb wp).pi.1 a' b' (rd ltC dk a' b' lim wb wp).pivot = (mid, d4) := ⟨(partitionEqual ltC (rd ltC dk a' b' lim wb wp).pi.1 a' b' (rd ltC dk a' b' lim wb wp).pivot).1, (partitionEqual ltC (rd ltC dk a' b' lim wb wp).pi.1 a' b' (rd ltC dk a' b' lim wb wp).pivot).2, rfl⟩
                      obtain ⟨r1, r2, r3, r4, _⟩ := round_eq hO.out (partitionEqual_holds ltC) h87'.1 hpv.1 hpv.2 (show b' ≤ (rd ltC dk a' b' lim wb wp).pi.1.size by omega) HB3.out h87'.2 hx
                      have hc21 := CE.out a' b' (rd ltC dk a' b' lim wb wp).pivot (rd ltC dk a' b' lim wb wp).pi.1 wc D.out.srt (s3.trans hds) hpv.1 hpv.2 (by omega)
                      rw [hx] at hc21
                      have HC := hide hc21
                      have X : Hid (partitionEqual ltC (rd ltC dk a' b' lim wb wp).pi.1 a' b' (rd ltC dk a' b' lim wb wp).pivot = (mid, d4)) := hx
                      have R4 := hide r4
                      clear hx hc21 r4
                      go_wp2_with (go_at_call 132; (with_reducible refine HC.out.mono ?_); rintro e w7 ⟨rfl, k7, t7⟩; have D7 := hide (D.out.call k7 t7); clear k7 t7)
                      go_roundg (b' - mid)
                      case measure => omega
                      case rel =>
                        have hx := X.out
                        exact ⟨mid, b', (rd ltC dk a' b' lim wb wp).lim, wb, wp, d4, rfl, rfl, rfl, rfl, rfl, r2, hb', Nat.le_refl _, by omega, Nat.le_trans rd_lim_le hlim, by rw [r3, s3, hds], R4, D7.out, (show Hid _ from by rw [← A.out, pdq_eq h12 hl0 hp2 h87 (by rw [hx]; exact ⟨r1, r2⟩), hx]; exact rfl)⟩
end Go.Proofs.YtedcbjefkhgiiabGreatDoor

/- The document's 'ahead', and the closure that its sort asks. -/
namespace Go.Proofs.YtedcbjefkhgiiabGreatDoor
open Go.RowKit Go.Sort
attribute [local go_sem ↓] Go.wp_at_zero Go.wp_at_succ
set_option linter.unusedSectionVars false
variable [Inhabited Cl]
theorem less_is (a b : ByteArray) : Op.bytesLess a.toList b.toList = ltB a b := by
  rw [bytesLess_eq, Lib.toList_data, Lib.toList_data]
  rfl
theorem lists_is (a b : ByteArray) : (a.toList = b.toList) = (a = b) := by
  rw [Lib.toList_data, Lib.toList_data]
  exact propext ⟨fun h => bytes_eq h, fun h => by rw [h]⟩
set_option maxHeartbeats 1000000 in
set_option maxRecDepth 100000 in
theorem ahead_any (x y : Cl) (W : World) :
    Calls Tryz.prog 56 #[.agg #[.string x.t, .string x.r, .string x.s, .string x.v], .agg #[.string y.t, .string y.r, .string y.s, .string y.v]] W fun e w' => e = .returned (.bool (ltC x y)) ∧ Below W.heap.size W w' := by
  have bel : Below W.heap.size W (W.alloc (.cells #[.string x.t, .string x.r, .string x.s, .string x.v] 44)) := (Below.refl _ W).alloc (Nat.le_refl _) _
  have bel2 := hide (bel.alloc bel.size (.cells #[.string y.t, .string y.r, .string y.s, .string y.v] 44))
  clear bel
  go_enter Tryz.func56, Tryz.ntmps56
  go_wp2
  · rename_i h
    rw [less_is] at h
    go_ret
    have e : ltC x y = true := (ltC_iff x y).2 (.inl h)
    exact ⟨by rw [e]; rfl, bel2.out⟩
  · rename_i h1 h2
    rw [less_is] at h1
    rw [lists_is] at h2
    rw [less_is]
    go_ret
    have e : ltC x y = ltB x.r y.r := by unfold ltC; rw [Bool.not_eq_true] at h1; rw [h1, decide_eq_true h2]; simp
    exact ⟨by rw [e]; rfl, bel2.out⟩
  · rename_i h1 h2
    rw [less_is] at h1
    rw [lists_is] at h2
    go_ret
    have e : ltC x y = false := by unfold ltC; rw [Bool.not_eq_true] at h1; rw [h1, decide_eq_false h2]; rfl
    exact ⟨by rw [e]; rfl, bel2.out⟩
theorem four_of {W : World} {blk : Nat} {d : Array Cl} {i : Nat} (h : HoldsK cellL 4 W blk 0 d) (hi : i < d.size) : W.cell? ⟨blk, i * 4, none⟩ = some (.string d[i]!.t) ∧ W.cell? ⟨blk, i * 4 + 1, none⟩ = some (.string d[i]!.r) ∧ W.cell? ⟨blk, i * 4 + 2, none⟩ = some (.string d[i]!.s) ∧ W.cell? ⟨blk, i * 4 + 3, none⟩ = some (.string d[i]!.v) := by
  refine ⟨?_, ?_, ?_, ?_⟩
  · have := (h.cell (i := i) (c := 0) hi (by omega)).1
    simpa [cellL] using this
  · have := (h.cell (i := i) (c := 1) hi (by omega)).1
    simpa [cellL] using this
  · have := (h.cell (i := i) (c := 2) hi (by omega)).1
    simpa [cellL] using this
  · have := (h.cell (i := i) (c := 3) hi (by omega)).1
    simpa [cellL] using this
theorem sees_still {W w1 : World} {B blk i j n c : Nat} {x y : Cl} (hb : Below W.heap.size W w1) (h : W.cell? ⟨B, 0, none⟩ = some (.slice (some ⟨blk, 0, none⟩) n c) ∧ W.cell? ⟨blk, i * 4, none⟩ = some (.string x.t) ∧ W.cell? ⟨blk, i * 4 + 1, none⟩ = some (.string x.r) ∧ W.cell? ⟨blk, i * 4 + 2, none⟩ = some (.string x.s) ∧ W.cell? ⟨blk, i * 4 + 3, none⟩ = some (.string x.v) ∧ W.cell? ⟨blk, j * 4, none⟩ = some (.string y.t) ∧ W.cell? ⟨blk, j * 4 + 1, none⟩ = some (.string y.r) ∧ W.cell? ⟨blk, j * 4 + 2, none⟩ = some (.string y.s) ∧ W.cell? ⟨blk, j * 4 + 3, none⟩ = some (.string y.v)) : w1.cell? ⟨B, 0, none⟩ = some (.slice (some ⟨blk, 0, none⟩) n c) ∧ w1.cell? ⟨blk, i * 4, none⟩ = some (.string x.t) ∧ w1.cell? ⟨blk, i * 4 + 1, none⟩ = some (.string x.r) ∧ w1.cell? ⟨blk, i * 4 + 2, none⟩ = some (.string x.s) ∧ w1.cell? ⟨blk, i * 4 + 3, none⟩ = some (.string x.v) ∧ w1.cell? ⟨blk, j * 4, none⟩ = some (.string y.t) ∧ w1.cell? ⟨blk, j * 4 + 1, none⟩ = some (.string y.r) ∧ w1.cell? ⟨blk, j * 4 + 2, none⟩ = some (.string y.s) ∧ w1.cell? ⟨blk, j * 4 + 3, none⟩ = some (.string y.v) := by
  obtain ⟨h0, h1, h2, h3, h4, h5, h6, h7, h8⟩ := h
  exact ⟨(hb.cell (block_lt_of_cell h0)).trans h0, (hb.cell (block_lt_of_cell h1)).trans h1, (hb.cell (block_lt_of_cell h2)).trans h2, (hb.cell (block_lt_of_cell h3)).trans h3, (hb.cell (block_lt_of_cell h4)).trans h4, (hb.cell (block_lt_of_cell h5)).trans h5, (hb.cell (block_lt_of_cell h6)).trans h6, (hb.cell (block_lt_of_cell h7)).trans h7, (hb.cell (block_lt_of_cell h8)).trans h8⟩
set_option maxHeartbeats 1000000 in
set_option maxRecDepth 100000 in
/-- The closure tells, and turns nothing. -/
theorem less_any (w0 : World) (blk n c B : Nat) (hB : HasR w0 B 25 #[.slice (some ⟨blk, 0, none⟩) n c]) (hne : B ≠ blk) : LessS w0 blk n 55 #[.pointer (some ⟨B, 0, none⟩)] := by
  intro W d hS hd i j hi hj
  have hB1 : HasR W B 25 #[.slice (some ⟨blk, 0, none⟩) n c] := hB.turned hS.but (by simp; exact hne)
  have cb : W.cell? ⟨B, 0, none⟩ = some (.slice (some ⟨blk, 0, none⟩) n c) := hB1.cell 0
  obtain ⟨i0, i1, i2, i3⟩ := four_of hS.row (i := i) (by omega)
  obtain ⟨j0, j1, j2, j3⟩ := four_of hS.row (i := j) (by omega)
  generalize d[i]! = x at i0 i1 i2 i3 ⊢
  generalize d[j]! = y at j0 j1 j2 j3 ⊢
  have A := hide (fun w => ahead_any x y w)
  clear hS hd hB hB1
  go_enter Tryz.func55, Tryz.ntmps55
  go_wp2
  go_region_held3 (fun wx => wx.cell? ⟨B, 0, none⟩ = some (.slice (some ⟨blk, 0, none⟩) n c) ∧ wx.cell? ⟨blk, i * 4, none⟩ = some (.string x.t) ∧ wx.cell? ⟨blk, i * 4 + 1, none⟩ = some (.string x.r) ∧ wx.cell? ⟨blk, i * 4 + 2, none⟩ = some (.string x.s) ∧ wx.cell? ⟨blk, i * 4 + 3, none⟩ = some (.string x.v) ∧ wx.cell? ⟨blk, j * 4, none⟩ = some (.string y.t) ∧ wx.cell? ⟨blk, j * 4 + 1, none⟩ = some (.string y.r) ∧ wx.cell? ⟨blk, j * 4 + 2, none⟩ = some (.string y.s) ∧ wx.cell? ⟨blk, j * 4 + 3, none⟩ = some (.string y.v)) (first | (with_reducible exact K1.out) | go_keep)
    ((go_at_call 56; (with_reducible refine (A.out _).mono ?_); rintro e w1 ⟨rfl, hb1⟩; have B1 := hide hb1; have K1 := hide (sees_still hb1 ⟨cb, i0, i1, i2, i3, j0, j1, j2, j3⟩); clear hb1))
  go_wp2
  go_ret
  exact ⟨rfl, (Below.refl W.heap.size W).drew.trans B1.out⟩
end Go.Proofs.YtedcbjefkhgiiabGreatDoor
