/- Texts of this proof, one behind the other. -/
import Derived.Test.YtedcbjefkhgiiabGreatDoorPart12
/- Who may be called so: the program's own Name and the document's come to one answer, for every text. -/
namespace Go.Proofs.YtedcbjefkhgiiabGreatDoor
open Go.RowKit
attribute [local go_sem ↓] Go.wp_at_zero Go.wp_at_succ
set_option maxRecDepth 100000 in
set_option maxHeartbeats 1000000 in
theorem name_any (s : ByteArray) (w : World) : Calls Tryz.prog 77 #[.string s] w fun e w' => e = .returned (.bool (nameB s.data.toList)) ∧ w' = w := by
  obtain ⟨l, hl⟩ : ∃ l, l = s.data.toList := ⟨_, rfl⟩
  have hs : l.length = s.size := by rw [hl]; exact Array.length_toList
  rw [← hl]
  by_cases h1 : s.size < 1
  · have d1 : decide ((s.size : Int) < 1) = true := by simp; omega
    have hf : nameB l = false := by unfold nameB; rw [decide_eq_false (by omega)]; rfl
    rw [hf]
    go_enter Tryz.func77, Tryz.ntmps77
    go_wp2
    go_ret
    exact ⟨rfl, rfl⟩
  have d1 : decide ((s.size : Int) < 1) = false := by simp; omega
  by_cases h2 : 10 < s.size
  · have d2 : decide ((10 : Int) < (s.size : Int)) = true := by simp; omega
    have hf : nameB l = false := by unfold nameB; rw [decide_eq_false (p := l.length ≤ 10) (by omega)]; simp
    rw [hf]
    go_enter Tryz.func77, Tryz.ntmps77
    go_wp2
    go_ret
    exact ⟨rfl, rfl⟩
  have d2 : decide ((10 : Int) < (s.size : Int)) = false := by simp; omega
  have b0 : ∀ wx, (Instr.index 9 (.string s) (.int .i64 0)).run Tryz.prog wx = .ok (.int .u8 (((l.getD 0 0).toNat : Nat) : Int)) wx := fun wx => by rw [hl]; exact byte_get s 0 (by omega) wx
  have bk := hide (fun (k : Nat) (hk : k < s.size) wx => byte_get s k hk wx)
  rw [← hl] at bk
  clear hl
  by_cases h3 : letB (l.getD 0 0) = true
  · have L0 := hide (fun wx => letter_any (l.getD 0 0) wx)
    have o0 : okAt l 0 = true := by unfold okAt; rw [h3]; rfl
    have O0 := hide o0
    generalize l.getD 0 0 = c0 at b0 L0 h3
    rw [h3] at L0
    go_enter Tryz.func77, Tryz.ntmps77
    go_wp2_with (go_at_call 110; (with_reducible refine (L0.out _).mono ?_); rintro e w1 ⟨rfl, rfl⟩)
    clear L0 b0 d1 d2 h3
    go_loopw [20] (fun i wr => ∃ k : Nat, k ≤ s.size ∧ i = .int .i64 k ∧ wr = w1 ∧ Hid (∀ j, j < k → okAt l j = true)) (fun i _ => s.size - (intOf i).toNat)
    case atStart => exact ⟨0, by omega, rfl, rfl, hide fun j hj => absurd hj (by omega)⟩
    case round =>
      obtain ⟨k, hk, rfl, rfl, hall⟩ := hrel
      by_cases hlt : k < s.size
      · have i1 : (k : Int) < (s.size : Int) := by omega
        have b1 := fun wx => bk.out k hlt wx
        have L1 := hide (fun wx => letter_any (l.getD k 0) wx)
        have D1 := hide (fun wx => digit_any (l.getD k 0) wx)
        have hok : okAt l k = (letB (l.getD k 0) || (!decide (k = 0) && digB (l.getD k 0))) := rfl
        have HOK := hide hok
        clear hok bk
        generalize l.getD k 0 = c at b1 L1 D1 HOK
        cases e1 : letB c
        · rw [e1] at L1 HOK
          cases e2 : digB c
          · rw [e2] at D1 HOK
            go_wp2_with (first
              | (go_at_call 110; (with_reducible refine (L1.out _).mono ?_); rintro e w1 ⟨rfl, rfl⟩)
              | (go_at_call 111; (with_reducible refine (D1.out _).mono ?_); rintro e w1 ⟨rfl, rfl⟩))
            go_ret
            refine ⟨ret_val ?_, rfl⟩
            rw [nameB_bad (k := k) (by omega) (HOK.out.trans (by simp))]
            rfl
          · rw [e2] at D1 HOK
            go_wp2_with (first
              | (go_at_call 110; (with_reducible refine (L1.out _).mono ?_); rintro e w1 ⟨rfl, rfl⟩)
              | (go_at_call 111; (with_reducible refine (D1.out _).mono ?_); rintro e w1 ⟨rfl, rfl⟩))
            go_roundw
            case rel =>
              refine ⟨k + 1, by omega, by go_num, trivial, hide fun j hj => ?_⟩
              by_cases hj0 : j = 0
              · rw [hj0]; exact O0.out
              · by_cases hjk : j = k
                · rw [hjk]; exact HOK.out.trans (by rw [hjk] at hj0; simp [hj0])
                · exact hall.out j (by omega)
            case measure => simp [intOf]; omega
        · rw [e1] at L1 HOK
          go_wp2_with (go_at_call 110; (with_reducible refine (L1.out _).mono ?_); rintro e w1 ⟨rfl, rfl⟩)
          go_roundw
          case rel =>
            refine ⟨k + 1, by omega, by go_num, trivial, hide fun j hj => ?_⟩
            by_cases hjk : j = k
            · rw [hjk]; exact HOK.out
            · exact hall.out j (by omega)
          case measure => simp [intOf]; omega
      · have i1 : ¬ (k : Int) < (s.size : Int) := by omega
        have hkk : k = s.size := by omega
        go_wp2
        go_ret
        refine ⟨ret_val ?_, rfl⟩
        rw [nameB_all (fun j hj => hall.out j (by omega)), decide_eq_true (by omega), decide_eq_true (by omega)]
        rfl
  · have L0 := hide (fun wx => letter_any (l.getD 0 0) wx)
    have o0 : nameB l = false := nameB_bad (k := 0) (by omega) (by unfold okAt; simp only [Bool.not_eq_true] at h3; rw [h3]; rfl)
    simp only [Bool.not_eq_true] at h3
    rw [o0]
    generalize l.getD 0 0 = c0 at b0 L0 h3
    rw [h3] at L0
    clear bk
    go_enter Tryz.func77, Tryz.ntmps77
    go_wp2_with (go_at_call 110; (with_reducible refine (L0.out _).mono ?_); rintro e w1 ⟨rfl, rfl⟩)
    go_ret
    exact ⟨rfl, rfl⟩
end Go.Proofs.YtedcbjefkhgiiabGreatDoor

/- Which events may be: the program's own Right. -/
namespace Go.Proofs.YtedcbjefkhgiiabGreatDoor
open Go.RowKit
attribute [local go_sem ↓] Go.wp_at_zero Go.wp_at_succ
theorem toList_empty {s : ByteArray} {b : Bool} (h : s.data.toList.isEmpty = b) : s.toList.isEmpty = b := by rw [Lib.toList_data]; exact h
set_option maxRecDepth 100000 in
set_option maxHeartbeats 400000 in
theorem out_runes (w : World) : PredAtRunes Tryz.prog 112 #[] outP w := fun W r _ _ => by
  unfold FnGives encR outP
  by_cases h1 : r < 32
  · have d1 : decide ((r : Int) < 32) = true := by simp; omega
    go_enter Tryz.func112, Tryz.ntmps112
    go_wp2
    go_ret
    exact ⟨ret_val (by simp [h1]), 0, rfl⟩
  · have d1 : decide ((r : Int) < 32) = false := by simp; omega
    go_enter Tryz.func112, Tryz.ntmps112
    go_wp2
    go_ret
    exact ⟨ret_val (by simp [h1]; omega), 0, rfl⟩
theorem contains_any (v : ByteArray) (w : World) : Calls Tryz.prog 113 #[.string v, .func (.func 112) #[] #[]] w fun e w' => e = .returned (.bool (!v.data.toList.all inB)) ∧ Below w.heap.size w w' := by
  rw [← idx_in]
  exact Any.strings_ContainsFunc_runes (ρ := laysContains_ren) laysContains 112 #[] (enters_of Tryz.func112 (by kernel_rfl) rfl) outP v w (out_runes w)
set_option maxRecDepth 100000 in
set_option maxHeartbeats 400000 in
theorem rightValue_any (v : ByteArray) (w : World) : Calls Tryz.prog 79 #[.string v] w fun e w' => e = .returned (.bool (valB v.data.toList)) ∧ Below w.heap.size w w' := by
  have C := hide (contains_any v w)
  have hl : v.data.toList.length = v.size := Array.length_toList
  unfold valB
  rw [hl]
  generalize v.data.toList.all inB = b at C ⊢
  by_cases h1 : v.size ≤ 20
  · have d1 : decide ((v.size : Int) ≤ 20) = true := by simp; omega
    have d2 : decide (v.size ≤ 20) = true := decide_eq_true h1
    rw [d2]
    go_enter Tryz.func79, Tryz.ntmps79
    go_wp2_with (go_at_call 113; (with_reducible refine C.out.mono ?_); rintro e w1 ⟨rfl, hb⟩)
    go_ret
    exact ⟨ret_val (by simp), hb⟩
  · have d1 : decide ((v.size : Int) ≤ 20) = false := by simp; omega
    have d2 : decide (v.size ≤ 20) = false := decide_eq_false h1
    rw [d2]
    go_enter Tryz.func79, Tryz.ntmps79
    go_wp2
    go_ret
    exact ⟨rfl, Below.refl _ _⟩
set_option maxRecDepth 100000 in
set_option maxHeartbeats 400000 in
theorem rowNamed_any (k : Int) (s t r v : ByteArray) (w : World) : Calls Tryz.prog 78 #[.agg #[.int .i64 k, .string s, .string t, .string r, .string v]] w fun e w' => e = .returned (.bool (nameB t.data.toList && nameB r.data.toList)) ∧ Below w.heap.size w w' := by
  have T := hide (fun wx => name_any t wx)
  have R := hide (fun wx => name_any r wx)
  cases b1 : nameB t.data.toList
  · rw [b1] at T
    clear R b1
    go_enter Tryz.func78, Tryz.ntmps78
    go_wp2_with (go_at_call 77; (with_reducible refine (T.out _).mono ?_); rintro e w1 ⟨rfl, rfl⟩)
    go_ret
    exact ⟨rfl, (Below.refl _ w).alloc (Nat.le_refl _) _⟩
  · rw [b1] at T
    clear b1
    generalize nameB r.data.toList = b2 at R
    go_enter Tryz.func78, Tryz.ntmps78
    go_wp2_with (first
      | (go_at_call 77; (with_reducible refine (T.out _).mono ?_); rintro e w1 ⟨rfl, rfl⟩)
      | (go_at_call 77; (with_reducible refine (R.out _).mono ?_); rintro e w1 ⟨rfl, rfl⟩))
    go_ret
    exact ⟨ret_val (by simp), (Below.refl _ w).alloc (Nat.le_refl _) _⟩
set_option maxRecDepth 100000 in
set_option maxHeartbeats 1000000 in
theorem rightE_any (k : Int) (s t r v : ByteArray) (w : World) : Calls Tryz.prog 49 #[.agg #[.int .i64 k, .string s, .string t, .string r, .string v]] w fun e w' => e = .returned (.bool (rightB ⟨k, s, t, r, v⟩)) ∧ Below w.heap.size w w' := by
  have S := hide (fun wx => name_any s wx)
  have R := hide (fun wx => rowNamed_any k s t r v wx)
  have V := hide (fun wx => rightValue_any v wx)
  have hv := toList_empty (s := v) rfl
  have ht := toList_empty (s := t) rfl
  have hr := toList_empty (s := r) rfl
  unfold rightB bodyB rowNB
  simp only
  generalize (nameB t.data.toList && nameB r.data.toList) = bR at R ⊢
  generalize nameB s.data.toList = bS at S ⊢
  generalize valB v.data.toList = bV at V ⊢
  generalize v.data.toList.isEmpty = eV at hv ⊢
  generalize t.data.toList.isEmpty = eT at ht ⊢
  generalize r.data.toList.isEmpty = eR at hr ⊢
  have bel := (Below.refl _ w).alloc (Nat.le_refl _) (.cells #[.int .i64 k, .string s, .string t, .string r, .string v] 33)
  cases bS
  · clear R V
    rw [Bool.false_and]
    go_enter Tryz.func49, Tryz.ntmps49
    go_wp2_with (go_at_call 77; (with_reducible refine (S.out _).mono ?_); rintro e w1 ⟨rfl, rfl⟩)
    go_ret
    exact ⟨rfl, bel⟩
  by_cases h1 : k = 1
  · subst h1
    cases bR
    · clear V
      go_enter Tryz.func49, Tryz.ntmps49
      go_wp2_with (first
        | (go_at_call 77; (with_reducible refine (S.out _).mono ?_); rintro e w1 ⟨rfl, rfl⟩)
        | (go_at_call 78; (with_reducible refine (R.out _).mono ?_); rintro e w1 ⟨rfl, hb1⟩))
      go_ret
      exact ⟨rfl, bel.trans (hb1.mono (by simp))⟩
    · go_enter Tryz.func49, Tryz.ntmps49
      go_wp2_with (first
        | (go_at_call 77; (with_reducible refine (S.out _).mono ?_); rintro e w1 ⟨rfl, rfl⟩)
        | (go_at_call 78; (with_reducible refine (R.out _).mono ?_); rintro e w1 ⟨rfl, hb1⟩; have c4 : w1.cell? ⟨w.heap.size, 4, none⟩ = some (.string v) := (hb1.cell (p := ⟨w.heap.size, 4, none⟩) (by simp)).trans (by simp); have l1 : w.heap.size ≤ w1.heap.size := Nat.le_trans (by simp) hb1.size)
        | (go_at_call 79; (with_reducible refine (V.out _).mono ?_); rintro e w2 ⟨rfl, hb2⟩))
      go_ret
      exact ⟨ret_val (by simp), (bel.trans (hb1.mono (by simp))).trans (hb2.mono l1)⟩
  have n1 : (k == 1) = false := by simp; omega
  rw [if_neg h1]
  by_cases h2 : k = 2
  · subst h2
    clear V
    cases bR
    · go_enter Tryz.func49, Tryz.ntmps49
      go_wp2_with (first
        | (go_at_call 77; (with_reducible refine (S.out _).mono ?_); rintro e w1 ⟨rfl, rfl⟩)
        | (go_at_call 78; (with_reducible refine (R.out _).mono ?_); rintro e w1 ⟨rfl, hb1⟩))
      go_ret
      exact ⟨rfl, bel.trans (hb1.mono (by simp))⟩
    · go_enter Tryz.func49, Tryz.ntmps49
      go_wp2_with (first
        | (go_at_call 77; (with_reducible refine (S.out _).mono ?_); rintro e w1 ⟨rfl, rfl⟩)
        | (go_at_call 78; (with_reducible refine (R.out _).mono ?_); rintro e w1 ⟨rfl, hb1⟩; have c4 : w1.cell? ⟨w.heap.size, 4, none⟩ = some (.string v) := (hb1.cell (p := ⟨w.heap.size, 4, none⟩) (by simp)).trans (by simp)))
      go_ret
      exact ⟨ret_val (by simp), bel.trans (hb1.mono (by simp))⟩
  have n2 : (k == 2) = false := by simp; omega
  rw [if_neg h2]
  clear R V
  by_cases h3 : k = 3
  · subst h3
    cases eT <;> cases eR <;> cases eV <;>
    · go_enter Tryz.func49, Tryz.ntmps49
      go_wp2_with (go_at_call 77; (with_reducible refine (S.out _).mono ?_); rintro e w1 ⟨rfl, rfl⟩)
      go_ret
      exact ⟨ret_val (by simp), bel⟩
  · have n3 : (k == 3) = false := by simp; omega
    rw [if_neg h3]
    go_enter Tryz.func49, Tryz.ntmps49
    go_wp2_with (go_at_call 77; (with_reducible refine (S.out _).mono ?_); rintro e w1 ⟨rfl, rfl⟩)
    go_ret
    exact ⟨ret_val (by simp), bel⟩
end Go.Proofs.YtedcbjefkhgiiabGreatDoor
