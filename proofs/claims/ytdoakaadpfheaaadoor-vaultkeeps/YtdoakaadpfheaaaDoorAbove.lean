/- Which of two numbers is the greater: what the document's 'above' comes to. -/
import Derived.Test.YtdoakaadpfheaaaDoorTimes
import Derived.Test.YtdoakaadpfheaaaDoorEnding
import Derived.Deep.QuietTactic
import Derived.BigQuiet
namespace Go.Proofs.YtdoakaadpfheaaaDoor
open Go.RowKit
theorem val_lt : ∀ (a b : List Nat) (m : Nat), a.length = b.length → small a → small b → m < a.length → (∀ i, m < i → i < a.length → a.getD i 0 = b.getD i 0) → a.getD m 0 < b.getD m 0 → val a < val b
  | [], _, m, _, _, _, hm, _, _ => absurd hm (by simp)
  | _ :: _, [], _, hl, _, _, _, _, _ => absurd hl (by simp)
  | x :: a, y :: b, m, hl, ha, hb, hm, he, hlt => by
    have hl' : a.length = b.length := by simpa using hl
    have hx : x < 65536 := ha x (by simp)
    have hy : y < 65536 := hb y (by simp)
    match m, hm, he, hlt with
    | 0, _, he, hlt =>
      have e : a = b := by
        apply List.ext_getElem hl'
        intro i h1 h2
        have := he (i + 1) (by omega) (by simp; omega)
        simpa [h1, h2] using this
      have hlt' : x < y := by simpa using hlt
      simp only [val]
      rw [e]; omega
    | m + 1, hm, he, hlt =>
      have ih := val_lt a b m hl' (fun d hd => ha d (by simp [hd])) (fun d hd => hb d (by simp [hd])) (by simpa using hm) (fun i h1 h2 => by
        have := he (i + 1) (by omega) (by simp; omega)
        simpa using this) (by simpa using hlt)
      simp only [val]
      omega
theorem val_eq (a b : List Nat) (hl : a.length = b.length) (he : ∀ i, i < a.length → a.getD i 0 = b.getD i 0) : val a = val b := by
  have e : a = b := by
    apply List.ext_getElem hl
    intro i h1 h2
    have := he i h1
    simpa [h1, h2] using this
  rw [e]
theorem val_zero (l : List Nat) : val (l ++ [0]) = val l := by rw [val_snoc]; omega
theorem val_repl (m p : Nat) : val (List.replicate m 0 ++ [p]) = p * 65536 ^ m := by
  rw [val_snoc, List.length_replicate]
  have e : ∀ m, val (List.replicate m 0) = 0 := by
    intro m
    induction m with
    | zero => rfl
    | succ m ih => simp [List.replicate_succ, val, ih]
  rw [e]; omega
theorem small_repl (m p : Nat) (hp : p < 65536) : small (List.replicate m 0 ++ [p]) := by
  intro d hd
  simp at hd
  omega
theorem lies {g n cap g' s : Nat} (h : (Value.slice (some ⟨g, 0, none⟩) n cap).ownBlock = some g' ∨ s ≤ g') : g = g' ∨ s ≤ g' := by
  simpa [Value.ownBlock] using h
theorem apart {g g' n cap : Nat} (h : g' ≠ g) : some g' ≠ (Value.slice (some ⟨g, 0, none⟩) n cap).ownBlock := by
  simpa [Value.ownBlock] using h
/-- Noughts as cells. -/
def zrow (m : Nat) : Array Value := (u64V (List.replicate m 0)).toArray
theorem make_zrow (k : Nat) (hk : k = 2 ∨ k = 3) (w : World) : (Instr.makeSlice 150 (.int .i64 (2 * (k : Int))) (.int .i64 (2 * (k : Int)))).run Tryd.prog w = .ok (.slice (some ⟨w.heap.size, 0, none⟩) (2 * k) (2 * k)) (w.alloc (.cells (zrow (2 * k)) 77)) := by
  rcases hk with rfl | rfl
  · kernel_rfl
  · kernel_rfl
theorem zrow_len (m : Nat) : (zrow m).size = m := by simp [zrow, u64V]
theorem br_zrow (w : World) (m : Nat) : BR (w.alloc (.cells (zrow m) 77)) w.heap.size 77 w.heap.size m m (u64V (List.replicate m 0)) :=
  ⟨by simp [u64V], Nat.le_refl _, Nat.le_refl _, _, _, heap_alloc_new w _, zrow_len m, by
    unfold zrow
    rw [List.take_of_length_le (by simp [u64V])], .inl (Nat.le_refl _)⟩
set_option maxRecDepth 100000 in
set_option maxHeartbeats 1000000 in
theorem above_any (x k p : Nat) (w : World) (hx : x < 1099511627776) (hk : k = 2 ∨ k = 3) (hp : p < 65536) :
    Calls Tryd.prog 70 #[.int .u64 x, .int .i64 k, .int .u64 p] w fun e w' => e = .returned (.bool (decide (p * 65536 ^ (2 * k) < x ^ k))) ∧ Below w.heap.size w w' := by
  obtain ⟨iu, hE⟩ := elemU
  have hmk := make_zrow k hk
  have hk3 : k ≤ 3 := by omega
  go_enter Tryd.func70, Tryd.ntmps70
  go_wp2_with fail
  go_loopw [7, 12] (fun t i wr => ∃ (j g n cap : Nat) (l : List Nat), j ≤ k ∧ i = .int .i64 j ∧ t = .slice (some ⟨g, 0, none⟩) n cap ∧ BR wr w.heap.size 77 g n cap (u64V l) ∧ small l ∧ val l = x ^ j ∧ 1 ≤ n ∧ n ≤ 1 + 3 * j ∧ Below w.heap.size w wr)
    (fun _ i _ => k - (intOf i).toNat)
  case atStart => exact ⟨0, w.heap.size, 1, 1, [1], by omega, rfl, rfl, ⟨rfl, Nat.le_refl _, Nat.le_refl _, _, _, heap_alloc_new w _, rfl, rfl, .inl (Nat.le_refl _)⟩, by intro d hd; simp at hd; omega, by simp [val], by omega, by omega, (Below.refl _ _).alloc (Nat.le_refl _) _⟩
  case round =>
    obtain ⟨j, g, n, cap, l, hj, rfl, rfl, hr, hsm, hval, hn1, hn, hb⟩ := hrel
    have hbs := hb.size
    by_cases hlt : j < k
    · have HV := hide hval
      clear hval
      go_wp2_with (go_at_call 88; refine (times_any w.heap.size g n cap l x _ hr hsm hn1 (by omega) hx).mono ?_; rintro e w1 ⟨g1, n1, cap1, l1, rfl, hr1, hs1, hv1, h11, h12, hb1⟩)
      go_roundw
      case rel => exact ⟨j + 1, g1, n1, cap1, l1, by omega, by go_num, rfl, hr1.mono hbs, hs1, by rw [hv1, HV.out, Nat.pow_succ], h11, by omega, hb.trans (hb1.mono hbs)⟩
      case measure => simp [intOf]; omega
    · obtain rfl : j = k := by omega
      have HV := hide hval
      clear hval hlt
      have hgl := hr.lt
      go_wp2_with (at_builtin; refine append_br 77 hE w.heap.size (.slice (some ⟨wr.heap.size, 0, none⟩) (2 * j) (2 * j)) (2 * j) (u64V (List.replicate (2 * j) 0)) ⟨wr.heap.size + 1, 0, none⟩ 1 1 [.int .u64 (p : Int)] rfl rfl (BRn.of (((br_zrow wr (2 * j)).mono hbs).alloc _)) rfl (by omega) (news_blk (HasR.new' (by simp) 77 #[.int .u64 (p : Int)])) (one_u64 _) (by omega) (by simp; omega) ?_; intro g2 cap2 w2 hr2 hg2 hl2 hb2; rw [u64V_snoc] at hr2)
      have hv2 : BR w2 w.heap.size 77 g n cap (u64V l) := ((hr.alloc _).alloc _).kept hg2 (apart (by omega))
      have hne2 : g ≠ g2 := by
        have h2 := lies hl2
        simp at h2
        omega
      have hB2 : Below w.heap.size w w2 := ((hb.alloc hbs _).alloc (by simp; omega) _).trans hb2
      have hsw := small_repl (2 * j) p hp
      have hvw := val_repl (2 * j) p
      generalize List.replicate (2 * j) 0 ++ [p] = lw at hr2 hsw hvw
      have HW := hide hvw
      have hnw0 : 2 * j + 1 ≤ 7 := by omega
      generalize 2 * j + 1 = nw at hr2 hnw0 ⊢
      have hnw : nw ≤ 7 := hnw0
      clear hnw0
      clear hr hb hbs hgl hg2 hl2 hb2 hvw hmk
      go_wp2_with fail
      go_loopw [7] (fun t wr => ∃ (g n cap : Nat) (l : List Nat), t = .slice (some ⟨g, 0, none⟩) n cap ∧ BR wr w.heap.size 77 g n cap (u64V l) ∧ BR wr w.heap.size 77 g2 nw cap2 (u64V lw) ∧ g ≠ g2 ∧ small l ∧ val l = x ^ j ∧ 1 ≤ n ∧ n ≤ 20 ∧ Below w.heap.size w wr)
        (fun t _ => nw - slen t)
      case atStart => exact ⟨g, n, cap, l, rfl, hv2, hr2, hne2, hsm, HV.out, hn1, by omega, hB2⟩
      case round =>
        clear hv2 hr2 hne2 hsm HV hn1 hn hB2
        obtain ⟨g, n, cap, l, rfl, hr, hr2, hne, hsm, hval, hn1, hn, hb⟩ := hrel
        have hbs := hb.size
        have hgl := hr.lt
        have hgl2 := hr2.lt
        have HV := hide hval
        clear hval
        by_cases hlt : n < nw
        · go_wp2_with (at_builtin; refine append_br 77 hE w.heap.size (.slice (some ⟨g, 0, none⟩) n cap) n (u64V l) ⟨wr.heap.size, 0, none⟩ 1 1 [.int .u64 ((0 : Nat) : Int)] rfl rfl ((BRn.of hr).alloc _) rfl (by omega) (news_one _ _) (one_u64 _) (by omega) (by simp; omega) ?_; intro g3 cap3 w3 hr3 hg3 hl3 hb3; rw [u64V_snoc] at hr3)
          go_roundw
          case rel => exact ⟨g3, n + 1, cap3, l ++ [0], rfl, hr3, (hr2.alloc _).kept hg3 (apart (by omega)), by have h3 := lies hl3; simp at h3; omega, small_snoc hsm (by omega), by rw [val_zero]; exact HV.out, by omega, by omega, (hb.alloc hbs _).trans hb3⟩
          case measure => simp [slen]; omega
        · go_wp2_with fail
          go_loopw [8] (fun t wr => ∃ (g2 nw cap2 : Nat) (lw : List Nat), t = .slice (some ⟨g2, 0, none⟩) nw cap2 ∧ nw ≤ n ∧ BR wr w.heap.size 77 g n cap (u64V l) ∧ BR wr w.heap.size 77 g2 nw cap2 (u64V lw) ∧ g ≠ g2 ∧ small lw ∧ val lw = p * 65536 ^ (2 * j) ∧ Below w.heap.size w wr)
            (fun t _ => n - slen t)
          case atStart => exact ⟨g2, nw, cap2, lw, rfl, by omega, hr, hr2, hne, hsw, HW.out, hb⟩
          case round =>
            clear hr hr2 hne hsw HW hb hbs hgl hgl2 hlt hnw
            obtain ⟨g2, nw, cap2, lw, rfl, hnw, hr, hr2, hne, hsw, hval, hb⟩ := hrel
            have hbs := hb.size
            have hgl := hr.lt
            have hgl2 := hr2.lt
            have HW := hide hval
            clear hval
            by_cases hlt : nw < n
            · go_wp2_with (at_builtin; refine append_br 77 hE w.heap.size (.slice (some ⟨g2, 0, none⟩) nw cap2) nw (u64V lw) ⟨wr.heap.size, 0, none⟩ 1 1 [.int .u64 ((0 : Nat) : Int)] rfl rfl ((BRn.of hr2).alloc _) rfl (by omega) (news_one _ _) (one_u64 _) (by omega) (by simp; omega) ?_; intro g3 cap3 w3 hr3 hg3 hl3 hb3; rw [u64V_snoc] at hr3)
              go_roundw
              case rel => exact ⟨g3, nw + 1, cap3, lw ++ [0], rfl, by omega, (hr.alloc _).kept hg3 (apart (by omega)), hr3, by have h3 := lies hl3; simp at h3; omega, small_snoc hsw (by omega), by rw [val_zero]; exact HW.out, (hb.alloc hbs _).trans hb3⟩
              case measure => simp [slen]; omega
            · obtain rfl : nw = n := by omega
              have hl1 : l.length = nw := by rw [← u64V_len, hr.len]
              have hl2 : lw.length = nw := by rw [← u64V_len, hr2.len]
              clear hlt hnw
              have hn20 : nw ≤ 20 := hn
              go_wp2_with fail
              go_loopw [9] (fun i wr => ∃ m : Nat, m ≤ nw ∧ i = .int .i64 ((m : Int) - 1) ∧ (∀ q, m ≤ q → q < nw → l.getD q 0 = lw.getD q 0) ∧ BR wr w.heap.size 77 g nw cap (u64V l) ∧ BR wr w.heap.size 77 g2 nw cap2 (u64V lw) ∧ Below w.heap.size w wr)
                (fun i _ => (intOf i + 1).toNat)
              case atStart => exact ⟨nw, by omega, rfl, by intro q h1 h2; omega, hr, hr2, hb⟩
              case round =>
                clear hr hr2 hb hbs hgl hgl2
                obtain ⟨m, hm, rfl, heq, hr, hr2, hb⟩ := hrel
                have HEQ := hide heq
                clear heq
                by_cases hm0 : m = 0
                · subst hm0
                  have hfin : decide (p * 65536 ^ (2 * j) < x ^ j) = false := by
                    have h1 := val_eq l lw (by omega) (fun i hi => HEQ.out i (by omega) (by omega))
                    rw [HV.out, HW.out] at h1
                    simp; omega
                  have HF := hide hfin
                  clear hfin
                  go_wp2
                  go_ret
                  exact ⟨ret_val (by show Value.bool false = _; rw [HF.out]), hb⟩
                · obtain ⟨q, rfl⟩ : ∃ q, m = q + 1 := ⟨m - 1, by omega⟩
                  have hc1 := br_u64 hr q (by omega)
                  have hc2 := br_u64 hr2 q (by omega)
                  have hgt : lw.getD q 0 < l.getD q 0 → p * 65536 ^ (2 * j) < x ^ j := by
                    intro h
                    have h1 := val_lt lw l q (by omega) hsw hsm (by omega) (fun i h1 h2 => (HEQ.out i (by omega) (by omega)).symm) h
                    rw [HV.out, HW.out] at h1
                    exact h1
                  have hle : l.getD q 0 < lw.getD q 0 → ¬ p * 65536 ^ (2 * j) < x ^ j := by
                    intro h
                    have h1 := val_lt l lw q (by omega) hsm hsw (by omega) (fun i h1 h2 => HEQ.out i (by omega) (by omega)) h
                    rw [HV.out, HW.out] at h1
                    omega
                  have hd1 := small_getD hsm q
                  have hd2 := small_getD hsw q
                  have HNX : Hid (l.getD q 0 = lw.getD q 0 → ∀ i, q ≤ i → i < nw → l.getD i 0 = lw.getD i 0) := hide (by
                    intro h i h1 h2
                    by_cases h3 : i = q
                    · rw [h3]; exact h
                    · exact HEQ.out i (by omega) h2)
                  generalize l.getD q 0 = d1 at hc1 hgt hle hd1 HNX
                  generalize lw.getD q 0 = d2 at hc2 hgt hle hd2 HNX
                  rw [show (((q + 1 : Nat) : Int) - 1) = (q : Int) from by omega]
                  have hi0 : (0 : Int) ≤ (q : Int) := by omega
                  have hi1 : (q : Int) < (nw : Int) := by omega
                  by_cases hd : d1 = d2
                  · have hnx := hide (HNX.out hd)
                    have hbb : ((d1 : Int) != (d2 : Int)) = false := by simp [hd]
                    clear hgt hle HNX hd
                    go_wp2_with fail
                    go_quiet (fail)
                    go_wp2_with fail
                    go_roundw
                    case rel => exact ⟨q, by omega, rfl, hnx.out, hr.drewN _, hr2.drewN _, below_drewN hb _⟩
                    case measure => simp [intOf]
                  · have hbb : ((d1 : Int) != (d2 : Int)) = true := by simp; omega
                    have hres : decide (d2 < d1) = decide (p * 65536 ^ (2 * j) < x ^ j) := by
                      rcases (show d1 < d2 ∨ d2 < d1 by omega) with h | h
                      · have h1 := hle h
                        have h2 : ¬ d2 < d1 := by omega
                        simp [h1, h2]
                      · have h1 := hgt h
                        have h2 : d2 < d1 := by omega
                        simp [h1, h2]
                    have HRES := hide hres
                    clear hgt hle HNX hres hd
                    go_wp2_with fail
                    go_quiet (fail)
                    go_wp2_with fail
                    go_quiet (fail)
                    go_wp2_with fail
                    go_ret
                    exact ⟨ret_val (by show Value.bool (decide (d2 < d1)) = _; rw [HRES.out]), below_drewN (below_drewN hb _) _⟩
end Go.Proofs.YtdoakaadpfheaaaDoor
