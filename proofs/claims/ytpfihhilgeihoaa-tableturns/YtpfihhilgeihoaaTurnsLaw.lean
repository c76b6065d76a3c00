/- EACH FOR ITSELF: the law's walk. -/
import Derived.Test.YtpfihhilgeihoaaTurns
namespace Go.Proofs.Ytpfihhilgeihoaa
open Go.RowKit Go.Sort
attribute [local go_sem ↓] Go.wp_at_zero Go.wp_at_succ
set_option linter.unusedSectionVars false
variable [Inhabited Cl] [Inhabited Ev]
set_option maxRecDepth 100000 in
set_option maxHeartbeats 4000000 in
theorem turns_main (v1 v2 v3 : Value) (es1 es2 : List Ev) (bs : List Bool) (W : World) (h1 : EvRow W v1 es1) (h2 : EvRow W v2 es2) (h3 : BoolRow W v3 bs) (f1 : fewB es1 = true) (f2 : fewB es2 = true) (f3 : bs.length ≤ 70) :
    Calls Try.prog 6 #[v1, v2, v3] W fun x w' => x = .returned (.bool true) ∧ Below W.heap.size W w' := by
  have F1 := hide (few_any v1 es1 W h1)
  rw [f1] at F1
  have F2 := hide (fun wx (hb : Below W.heap.size W wx) => few_any v2 es2 wx (h2.turned hb (Nat.le_refl _)))
  rw [f2] at F2
  have AP := hide (fun wx => applied_any wx)
  have O1 := hide (fun wx (hb : Below W.heap.size W wx) => one_any v1 es1 ⟨#[97, 110, 110]⟩ ⟨#[116]⟩ wx (h1.turned hb (Nat.le_refl _)) (few_brief f1).1)
  have O2 := hide (fun wx (hb : Below W.heap.size W wx) => one_any v2 es2 ⟨#[98, 111, 98]⟩ ⟨#[117]⟩ wx (h2.turned hb (Nat.le_refl _)) (few_brief f2).1)
  have HM := hide (made_ones f1 f2)
  generalize es1.map (oneE ⟨#[97, 110, 110]⟩ ⟨#[116]⟩) = A at O1 HM
  generalize es2.map (oneE ⟨#[98, 111, 98]⟩ ⟨#[117]⟩) = B at O2 HM
  have H3 := hide h3
  obtain ⟨ao3, cap3, rfl⟩ := h3.slice
  have d3 : decide ((70 : Int) < bs.length) = false := by simp; omega
  have eg : ∀ args w, (callFunc 28 args).run Try.prog w = .ok (.enter 28 args) w := enters_of Try.func28 (by kernel_rfl) rfl
  clear h1 h2 h3 f1 f2
  go_enter Try.func6, Try.ntmps6
  go_wp2_with (first
    | (go_at_call 10; (with_reducible refine F1.out.mono ?_); rintro x w1 ⟨rfl, hb1⟩; have B1 := hide hb1; clear hb1)
    | (go_at_call 10; (with_reducible refine (F2.out _ B1.out).mono ?_); rintro x w2 ⟨rfl, hb2⟩; have B2 := hide (B1.out.trans (hb2.mono B1.out.size)); clear hb2)
    | (go_at_call 11; (with_reducible refine (AP.out _).mono ?_); rintro x w3 ⟨rfl, hb3⟩; have B3 := hide (B2.out.trans (hb3.mono B2.out.size)); clear hb3)
    | (go_at_fn 28; (with_reducible refine (O1.out _ B3.out).mono ?_); rintro x w4 ⟨u1, rfl, r1, hb4⟩; have B4 := hide (B3.out.trans (hb4.mono B3.out.size)); have R1 := hide r1; clear hb4 r1)
    | (go_at_fn 28; (with_reducible refine (O2.out _ B4.out).mono ?_); rintro x w5 ⟨u2, rfl, r2, hb5⟩
       have B5 := hide (B4.out.trans (hb5.mono B4.out.size))
       have R2 := hide (EvRow.turned R1.out hb5 (Nat.le_refl _))
       have R3 := hide r2
       obtain ⟨ao1, cap1, rfl⟩ := R2.out.slice
       obtain ⟨ao2, cap2, rfl⟩ := R3.out.slice
       clear hb5 r2 R1))
  have HL := hide (two_new w5)
  have hla := HM.out.la
  have hlb := HM.out.lb
  have hr3 := H3.out.below B5.out (Nat.le_refl _)
  have R4 := hide hr3
  clear F1 F2 AP O1 O2 H3 B1 B2 B3 B4 hr3 eg
  go_loopw [12] (fun i wr => ∃ (k : Nat) (mx : Option Nat), k ≤ A.length + B.length ∧ i = .int .i64 k ∧ Two w5 wr w5.heap.size (w5.heap.size + 1) mx none k 0 (runs ((A ++ B).take k) tab0) tab0) (fun i _ => A.length + B.length - (intOf i).toNat)
  case atStart => exact ⟨0, none, Nat.zero_le _, rfl, HL.out⟩
  case round =>
    clear HL
    obtain ⟨k, mx, hk, rfl, hT⟩ := hrel
    have T := hide hT
    clear hT
    by_cases hlt : k < A.length + B.length
    · have HR := hide (runs_take (es := A ++ B) (k := k) (by simp; omega) tab0)
      by_cases ha : k < A.length
      · obtain ⟨b, off, rfl, hb, c0, c1, c2, c3, c4⟩ := (R2.out.turned T.out.below (Nat.le_refl _)).at ha
        have HB := hide (HM.out.ba _ (mem_at ha))
        rw [at_left ha] at HR
        generalize A[k]! = e at c0 c1 c2 c3 c4 HR HB
        have P := hide (apply_any w5.heap.size mx e k _ wr HB.out (by omega) T.out.x)
        generalize errOf e = er at P
        go_wp2_with (go_at_call 12; (with_reducible refine P.out.mono ?_); rintro x w6 ⟨rfl, mx', hu⟩)
        go_roundw
        case rel => exact ⟨k + 1, mx', by omega, by go_num, by rw [HR.out]; exact T.out.stepX hu⟩
        case measure => simp [intOf]; omega
      · obtain ⟨j, rfl⟩ : ∃ j, k = A.length + j := ⟨k - A.length, by omega⟩
        have hj : j < B.length := by omega
        obtain ⟨b, off, rfl, hb, c0, c1, c2, c3, c4⟩ := (R3.out.turned T.out.below (Nat.le_refl _)).at hj
        have HB := hide (HM.out.bb _ (mem_at hj))
        rw [at_right hj] at HR
        generalize B[j]! = e at c0 c1 c2 c3 c4 HR HB
        have P := hide (apply_any w5.heap.size mx e (A.length + j) _ wr HB.out (by omega) T.out.x)
        generalize errOf e = er at P
        go_wp2_with (go_at_call 12; (with_reducible refine P.out.mono ?_); rintro x w6 ⟨rfl, mx', hu⟩)
        go_roundw
        case rel => exact ⟨A.length + j + 1, mx', by omega, by go_num, by rw [HR.out]; exact T.out.stepX hu⟩
        case measure => simp [intOf]; omega
    · have hke : k = A.length + B.length := by omega
      have T2 : Hid (Two w5 wr w5.heap.size (w5.heap.size + 1) mx none (A.length + B.length) 0 (runs B (runs A tab0)) tab0) := by
        have h := T.out
        rw [hke, List.take_of_length_le (by simp), runs_append] at h
        exact h
      clear T
      subst hke
      go_wp2
      go_loopw [13, 14] (fun p q wr2 => ∃ (i k : Nat) (my : Option Nat), i ≤ A.length ∧ k ≤ B.length ∧ p = .int .i64 i ∧ q = .int .i64 k ∧ Two w5 wr2 w5.heap.size (w5.heap.size + 1) mx my (A.length + B.length) (i + k) (runs B (runs A tab0)) (runs (B.take k) (runs (A.take i) tab0))) (fun p q _ => A.length + B.length - (intOf p).toNat - (intOf q).toNat)
      case atStart => exact ⟨0, 0, none, Nat.zero_le _, Nat.zero_le _, rfl, rfl, T2.out⟩
      case round =>
        clear T2
        obtain ⟨i, k, my, hia, hkb, rfl, rfl, hT⟩ := hrel
        have T := hide hT
        clear hT
        by_cases hi : i < A.length
        · by_cases hk2 : k < B.length
          · by_cases ht : i + k < bs.length
            · obtain ⟨b3, off3, rfl, ct⟩ := (R4.out.below T.out.below (Nat.le_refl _)).at ht
              generalize bs[i + k]! = q at ct
              cases q with
              | true =>
                obtain ⟨b, off, rfl, hb, c0, c1, c2, c3, c4⟩ := (R2.out.turned T.out.below (Nat.le_refl _)).at hi
                have HB := hide (HM.out.ba _ (mem_at hi))
                have HR := hide ((runs_swap (e := A[i]!) (B.take k) (fun f hf σ => HM.out.swap _ (mem_at hi) f (List.mem_of_mem_take hf) σ) (runs (A.take i) tab0)).trans (by rw [← runs_take hi]))
                generalize A[i]! = e at c0 c1 c2 c3 c4 HR HB
                have P := hide (apply_any (w5.heap.size + 1) my e (i + k) _ wr HB.out (by omega) T.out.y)
                generalize errOf e = er at P
                go_wp2_with (go_at_call 12; (with_reducible refine P.out.mono ?_); rintro x w6 ⟨rfl, my', hu⟩)
                go_roundw
                case rel => (repeat apply Exists.intro); exact ⟨⟨i + 1, k, my', by omega, by omega, by go_num, rfl, by rw [← HR.out, show i + 1 + k = i + k + 1 by omega]; exact T.out.stepY hu⟩, rfl⟩
                case measure => simp [intOf]; omega
              | false =>
                obtain ⟨b, off, rfl, hb, c0, c1, c2, c3, c4⟩ := (R3.out.turned T.out.below (Nat.le_refl _)).at hk2
                have HB := hide (HM.out.bb _ (mem_at hk2))
                have HR := hide (runs_take hk2 (runs (A.take i) tab0))
                generalize B[k]! = e at c0 c1 c2 c3 c4 HR HB
                have P := hide (apply_any (w5.heap.size + 1) my e (i + k) _ wr HB.out (by omega) T.out.y)
                generalize errOf e = er at P
                go_wp2_with (go_at_call 12; (with_reducible refine P.out.mono ?_); rintro x w6 ⟨rfl, my', hu⟩)
                go_roundw
                case rel => (repeat apply Exists.intro); exact ⟨⟨i, k + 1, my', by omega, by omega, rfl, by go_num, by rw [HR.out]; exact T.out.stepY hu⟩, rfl⟩
                case measure => simp [intOf]; omega
            · have dt : decide ((i : Int) + k < bs.length) = false := by simp; omega
              obtain ⟨b, off, rfl, hb, c0, c1, c2, c3, c4⟩ := (R3.out.turned T.out.below (Nat.le_refl _)).at hk2
              have HB := hide (HM.out.bb _ (mem_at hk2))
              have HR := hide (runs_take hk2 (runs (A.take i) tab0))
              generalize B[k]! = e at c0 c1 c2 c3 c4 HR HB
              have P := hide (apply_any (w5.heap.size + 1) my e (i + k) _ wr HB.out (by omega) T.out.y)
              generalize errOf e = er at P
              go_wp2_with (go_at_call 12; (with_reducible refine P.out.mono ?_); rintro x w6 ⟨rfl, my', hu⟩)
              go_roundw
              case rel => (repeat apply Exists.intro); exact ⟨⟨i, k + 1, my', by omega, by omega, rfl, by go_num, by rw [HR.out]; exact T.out.stepY hu⟩, rfl⟩
              case measure => simp [intOf]; omega
          · obtain rfl : k = B.length := by omega
            obtain ⟨b, off, rfl, hb, c0, c1, c2, c3, c4⟩ := (R2.out.turned T.out.below (Nat.le_refl _)).at hi
            have HB := hide (HM.out.ba _ (mem_at hi))
            have HR := hide ((runs_swap (e := A[i]!) (B.take B.length) (fun f hf σ => HM.out.swap _ (mem_at hi) f (List.mem_of_mem_take hf) σ) (runs (A.take i) tab0)).trans (by rw [← runs_take hi]))
            generalize A[i]! = e at c0 c1 c2 c3 c4 HR HB
            have P := hide (apply_any (w5.heap.size + 1) my e (i + B.length) _ wr HB.out (by omega) T.out.y)
            generalize errOf e = er at P
            by_cases ht : i + B.length < bs.length
            · obtain ⟨b3, off3, rfl, ct⟩ := (R4.out.below T.out.below (Nat.le_refl _)).at ht
              generalize bs[i + B.length]! = q at ct
              go_wp2_with (go_at_call 12; (with_reducible refine P.out.mono ?_); rintro x w6 ⟨rfl, my', hu⟩)
              go_roundw
              case rel => (repeat apply Exists.intro); exact ⟨⟨i + 1, B.length, my', by omega, by omega, by go_num, rfl, by rw [← HR.out, show i + 1 + B.length = i + B.length + 1 by omega]; exact T.out.stepY hu⟩, rfl⟩
              case measure => simp [intOf]; omega
            · have dt : decide ((i : Int) + B.length < bs.length) = false := by simp; omega
              go_wp2_with (go_at_call 12; (with_reducible refine P.out.mono ?_); rintro x w6 ⟨rfl, my', hu⟩)
              go_roundw
              case rel => (repeat apply Exists.intro); exact ⟨⟨i + 1, B.length, my', by omega, by omega, by go_num, rfl, by rw [← HR.out, show i + 1 + B.length = i + B.length + 1 by omega]; exact T.out.stepY hu⟩, rfl⟩
              case measure => simp [intOf]; omega
        · by_cases hk2 : k < B.length
          · have dk : decide ((k : Int) = B.length) = false := by simp; omega
            obtain ⟨b, off, rfl, hb, c0, c1, c2, c3, c4⟩ := (R3.out.turned T.out.below (Nat.le_refl _)).at hk2
            have HB := hide (HM.out.bb _ (mem_at hk2))
            have HR := hide (runs_take hk2 (runs (A.take i) tab0))
            generalize B[k]! = e at c0 c1 c2 c3 c4 HR HB
            have P := hide (apply_any (w5.heap.size + 1) my e (i + k) _ wr HB.out (by omega) T.out.y)
            generalize errOf e = er at P
            by_cases ht : i + k < bs.length
            · obtain ⟨b3, off3, rfl, ct⟩ := (R4.out.below T.out.below (Nat.le_refl _)).at ht
              generalize bs[i + k]! = q at ct
              go_wp2_with (go_at_call 12; (with_reducible refine P.out.mono ?_); rintro x w6 ⟨rfl, my', hu⟩)
              go_roundw
              case rel => (repeat apply Exists.intro); exact ⟨⟨i, k + 1, my', by omega, by omega, rfl, by go_num, by rw [HR.out]; exact T.out.stepY hu⟩, rfl⟩
              case measure => simp [intOf]; omega
            · have dt : decide ((i : Int) + k < bs.length) = false := by simp; omega
              go_wp2_with (go_at_call 12; (with_reducible refine P.out.mono ?_); rintro x w6 ⟨rfl, my', hu⟩)
              go_roundw
              case rel => (repeat apply Exists.intro); exact ⟨⟨i, k + 1, my', by omega, by omega, rfl, by go_num, by rw [HR.out]; exact T.out.stepY hu⟩, rfl⟩
              case measure => simp [intOf]; omega
          · have hie : i = A.length := by omega
            have hke : k = B.length := by omega
            have T3 : Hid (Two w5 wr w5.heap.size (w5.heap.size + 1) mx my (A.length + B.length) (A.length + B.length) (runs B (runs A tab0)) (runs B (runs A tab0))) := by
              have h := T.out
              rw [hie, hke, List.take_length, List.take_length] at h
              exact h
            clear T
            subst hie hke
            have C1 := hide (cells_any w5.heap.size mx _ _ wr (by omega) T3.out.x)
            go_wp2_with (first
              | (go_at_call 14; (with_reducible refine C1.out.mono ?_); rintro x w6 ⟨c1, ds1, rfl, o1, _, r1, hb6⟩
                 have T4 := hide (T3.out.still hb6)
                 have C2 := hide (cells_any (w5.heap.size + 1) my _ _ w6 (by omega) T4.out.y)
                 have Q1 := hide (And.intro o1 r1)
                 clear o1 r1 hb6)
              | (go_at_call 14; (with_reducible refine C2.out.mono ?_); rintro x w7 ⟨c2, ds2, rfl, o2, hn2, r2, hb7⟩
                 obtain rfl := o2.eq Q1.out.1
                 have T5 := hide (T4.out.still hb7)
                 have E := hide (equal_any _ _ c1 c2 ds2 w7 (Q1.out.2.below hb7 (Nat.le_refl _)) r2 (by omega))
                 clear o2 r2 hb7 hn2)
              | (go_at_call 24; (with_reducible refine E.out.mono ?_); rintro x w8 ⟨rfl, hb8⟩))
            go_ret
            exact ⟨rfl, (B5.out.trans (T5.out.below.mono B5.out.size)).trans (hb8.mono (Nat.le_trans B5.out.size T5.out.below.size))⟩
end Go.Proofs.Ytpfihhilgeihoaa
