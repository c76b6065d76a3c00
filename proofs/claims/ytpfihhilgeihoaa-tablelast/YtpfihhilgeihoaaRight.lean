/- Which events may be: the program's own Right. -/
import Derived.Test.YtpfihhilgeihoaaShelf
import Derived.Test.YtpfihhilgeihoaaName
namespace Go.Proofs.Ytpfihhilgeihoaa
open Go.RowKit
attribute [local go_sem ↓] Go.wp_at_zero Go.wp_at_succ
theorem toList_empty {s : ByteArray} {b : Bool} (h : s.data.toList.isEmpty = b) : s.toList.isEmpty = b := by rw [Lib.toList_data]; exact h
set_option maxRecDepth 100000 in
set_option maxHeartbeats 400000 in
theorem out_runes (w : World) : PredAtRunes Try.prog 53 #[] outP w := fun W r _ _ => by
  unfold FnGives encR outP
  by_cases h1 : r < 32
  · have d1 : decide ((r : Int) < 32) = true := by simp; omega
    go_enter Try.func53, Try.ntmps53
    go_wp2
    go_ret
    exact ⟨ret_val (by simp [h1]), 0, rfl⟩
  · have d1 : decide ((r : Int) < 32) = false := by simp; omega
    go_enter Try.func53, Try.ntmps53
    go_wp2
    go_ret
    exact ⟨ret_val (by simp [h1]; omega), 0, rfl⟩
theorem contains_any (v : ByteArray) (w : World) : Calls Try.prog 54 #[.string v, .func (.func 53) #[] #[]] w fun e w' => e = .returned (.bool (!v.data.toList.all inB)) ∧ Below w.heap.size w w' := by
  rw [← idx_in]
  exact Any.strings_ContainsFunc_runes (ρ := laysContains_ren) laysContains 53 #[] (enters_of Try.func53 (by kernel_rfl) rfl) outP v w (out_runes w)
set_option maxRecDepth 100000 in
set_option maxHeartbeats 400000 in
theorem rightValue_any (v : ByteArray) (w : World) : Calls Try.prog 39 #[.string v] w fun e w' => e = .returned (.bool (valB v.data.toList)) ∧ Below w.heap.size w w' := by
  have C := hide (contains_any v w)
  have hl : v.data.toList.length = v.size := Array.length_toList
  unfold valB
  rw [hl]
  generalize v.data.toList.all inB = b at C ⊢
  by_cases h1 : v.size ≤ 20
  · have d1 : decide ((v.size : Int) ≤ 20) = true := by simp; omega
    have d2 : decide (v.size ≤ 20) = true := decide_eq_true h1
    rw [d2]
    go_enter Try.func39, Try.ntmps39
    go_wp2_with (go_at_call 54; (with_reducible refine C.out.mono ?_); rintro e w1 ⟨rfl, hb⟩)
    go_ret
    exact ⟨ret_val (by simp), hb⟩
  · have d1 : decide ((v.size : Int) ≤ 20) = false := by simp; omega
    have d2 : decide (v.size ≤ 20) = false := decide_eq_false h1
    rw [d2]
    go_enter Try.func39, Try.ntmps39
    go_wp2
    go_ret
    exact ⟨rfl, Below.refl _ _⟩
set_option maxRecDepth 100000 in
set_option maxHeartbeats 400000 in
theorem rowNamed_any (k : Int) (s t r v : ByteArray) (w : World) : Calls Try.prog 38 #[.agg #[.int .i64 k, .string s, .string t, .string r, .string v]] w fun e w' => e = .returned (.bool (nameB t.data.toList && nameB r.data.toList)) ∧ Below w.heap.size w w' := by
  have T := hide (fun wx => name_any t wx)
  have R := hide (fun wx => name_any r wx)
  cases b1 : nameB t.data.toList
  · rw [b1] at T
    clear R b1
    go_enter Try.func38, Try.ntmps38
    go_wp2_with (go_at_call 37; (with_reducible refine (T.out _).mono ?_); rintro e w1 ⟨rfl, rfl⟩)
    go_ret
    exact ⟨rfl, (Below.refl _ w).alloc (Nat.le_refl _) _⟩
  · rw [b1] at T
    clear b1
    generalize nameB r.data.toList = b2 at R
    go_enter Try.func38, Try.ntmps38
    go_wp2_with (first
      | (go_at_call 37; (with_reducible refine (T.out _).mono ?_); rintro e w1 ⟨rfl, rfl⟩)
      | (go_at_call 37; (with_reducible refine (R.out _).mono ?_); rintro e w1 ⟨rfl, rfl⟩))
    go_ret
    exact ⟨ret_val (by simp), (Below.refl _ w).alloc (Nat.le_refl _) _⟩
set_option maxRecDepth 100000 in
set_option maxHeartbeats 1000000 in
theorem rightE_any (k : Int) (s t r v : ByteArray) (w : World) : Calls Try.prog 13 #[.agg #[.int .i64 k, .string s, .string t, .string r, .string v]] w fun e w' => e = .returned (.bool (rightB ⟨k, s, t, r, v⟩)) ∧ Below w.heap.size w w' := by
  have S := hide (fun wx => name_any s wx)
  have R := hide (fun wx => rowNamed_any k s t r v wx)
  have V := hide (fun wx => rightValue_any v wx)
  have hv := toList_empty (s := v) rfl
  have ht := toList_empty (s := t) rfl
  have hr := toList_empty (s := r) rfl
  unfold rightB bodyB rowNB
  simp only
  generalize (nameB t.data.toList && nameB r.data.toList) = bR at R ⊢
  generalize nameB s.data.toList = bS at S ⊢
  generalize valB v.data.toList = bV at V ⊢
  generalize v.data.toList.isEmpty = eV at hv ⊢
  generalize t.data.toList.isEmpty = eT at ht ⊢
  generalize r.data.toList.isEmpty = eR at hr ⊢
  have bel := (Below.refl _ w).alloc (Nat.le_refl _) (.cells #[.int .i64 k, .string s, .string t, .string r, .string v] 36)
  cases bS
  · clear R V
    rw [Bool.false_and]
    go_enter Try.func13, Try.ntmps13
    go_wp2_with (go_at_call 37; (with_reducible refine (S.out _).mono ?_); rintro e w1 ⟨rfl, rfl⟩)
    go_ret
    exact ⟨rfl, bel⟩
  by_cases h1 : k = 1
  · subst h1
    cases bR
    · clear V
      go_enter Try.func13, Try.ntmps13
      go_wp2_with (first
        | (go_at_call 37; (with_reducible refine (S.out _).mono ?_); rintro e w1 ⟨rfl, rfl⟩)
        | (go_at_call 38; (with_reducible refine (R.out _).mono ?_); rintro e w1 ⟨rfl, hb1⟩))
      go_ret
      exact ⟨rfl, bel.trans (hb1.mono (by simp))⟩
    · go_enter Try.func13, Try.ntmps13
      go_wp2_with (first
        | (go_at_call 37; (with_reducible refine (S.out _).mono ?_); rintro e w1 ⟨rfl, rfl⟩)
        | (go_at_call 38; (with_reducible refine (R.out _).mono ?_); rintro e w1 ⟨rfl, hb1⟩; have c4 : w1.cell? ⟨w.heap.size, 4, none⟩ = some (.string v) := (hb1.cell (p := ⟨w.heap.size, 4, none⟩) (by simp)).trans (by simp); have l1 : w.heap.size ≤ w1.heap.size := Nat.le_trans (by simp) hb1.size)
        | (go_at_call 39; (with_reducible refine (V.out _).mono ?_); rintro e w2 ⟨rfl, hb2⟩))
      go_ret
      exact ⟨ret_val (by simp), (bel.trans (hb1.mono (by simp))).trans (hb2.mono l1)⟩
  have n1 : (k == 1) = false := by simp; omega
  rw [if_neg h1]
  by_cases h2 : k = 2
  · subst h2
    clear V
    cases bR
    · go_enter Try.func13, Try.ntmps13
      go_wp2_with (first
        | (go_at_call 37; (with_reducible refine (S.out _).mono ?_); rintro e w1 ⟨rfl, rfl⟩)
        | (go_at_call 38; (with_reducible refine (R.out _).mono ?_); rintro e w1 ⟨rfl, hb1⟩))
      go_ret
      exact ⟨rfl, bel.trans (hb1.mono (by simp))⟩
    · go_enter Try.func13, Try.ntmps13
      go_wp2_with (first
        | (go_at_call 37; (with_reducible refine (S.out _).mono ?_); rintro e w1 ⟨rfl, rfl⟩)
        | (go_at_call 38; (with_reducible refine (R.out _).mono ?_); rintro e w1 ⟨rfl, hb1⟩; have c4 : w1.cell? ⟨w.heap.size, 4, none⟩ = some (.string v) := (hb1.cell (p := ⟨w.heap.size, 4, none⟩) (by simp)).trans (by simp)))
      go_ret
      exact ⟨ret_val (by simp), bel.trans (hb1.mono (by simp))⟩
  have n2 : (k == 2) = false := by simp; omega
  rw [if_neg h2]
  clear R V
  by_cases h3 : k = 3
  · subst h3
    cases eT <;> cases eR <;> cases eV <;>
    · go_enter Try.func13, Try.ntmps13
      go_wp2_with (go_at_call 37; (with_reducible refine (S.out _).mono ?_); rintro e w1 ⟨rfl, rfl⟩)
      go_ret
      exact ⟨ret_val (by simp), bel⟩
  · have n3 : (k == 3) = false := by simp; omega
    rw [if_neg h3]
    go_enter Try.func13, Try.ntmps13
    go_wp2_with (go_at_call 37; (with_reducible refine (S.out _).mono ?_); rintro e w1 ⟨rfl, rfl⟩)
    go_ret
    exact ⟨ret_val (by simp), bel⟩
end Go.Proofs.Ytpfihhilgeihoaa
