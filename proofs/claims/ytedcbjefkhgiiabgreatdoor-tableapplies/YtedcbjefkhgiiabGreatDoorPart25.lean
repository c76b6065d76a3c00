/- Texts of this proof, one behind the other. -/
import Derived.Test.YtedcbjefkhgiiabGreatDoorPart24
/- The document's test of names. -/
namespace Go.Proofs.YtedcbjefkhgiiabGreatDoor
open Go.RowKit
attribute [local go_sem ↓] Go.wp_at_zero Go.wp_at_succ
set_option maxRecDepth 100000 in
set_option maxHeartbeats 1000000 in
theorem refName_any (s : ByteArray) (w : World) (hs0 : s.size ≤ 1000) : Calls Tryz.prog 82 #[.string s] w fun e w' => e = .returned (.bool (nameB s.data.toList)) ∧ w' = w := by
  obtain ⟨l, hl⟩ : ∃ l, l = s.data.toList := ⟨_, rfl⟩
  have hs : l.length = s.size := by rw [hl]; exact Array.length_toList
  rw [← hl]
  have bk := hide (fun (k : Nat) (hk : k < s.size) wx => byte_get s k hk wx)
  rw [← hl] at bk
  clear hl
  have Q := hide (fun wx => in_any (s.size : Int) 1 10 wx)
  go_enter Tryz.func82, Tryz.ntmps82
  go_wp2
  go_loopw [7] (fun i wr => ∃ k : Nat, k ≤ s.size ∧ i = .int .i64 k ∧ wr = w ∧ Hid (∀ j, j < k → okAt l j = true)) (fun i _ => s.size - (intOf i).toNat)
  case atStart => exact ⟨0, by omega, rfl, rfl, hide fun j hj => absurd hj (by omega)⟩
  case round =>
    obtain ⟨k, hk, rfl, rfl, hall⟩ := hrel
    by_cases hlt : k < s.size
    · have i1 : (k : Int) < (s.size : Int) := by omega
      have b1 := fun wx => bk.out k hlt wx
      have hok : okAt l k = (letB (l.getD k 0) || (!decide (k = 0) && digB (l.getD k 0))) := rfl
      have HOK := hide hok
      clear hok bk Q
      generalize l.getD k 0 = c at b1 HOK
      by_cases h1 : 97 ≤ c.toNat
      · have q1 : decide ((97 : Int) ≤ (c.toNat : Int)) = true := by simp; omega
        by_cases h2 : c.toNat ≤ 122
        · have q2 : decide ((c.toNat : Int) ≤ 122) = true := by simp; omega
          go_wp2
          go_roundw
          case rel =>
            refine ⟨k + 1, by omega, by go_num, trivial, hide fun j hj => ?_⟩
            by_cases hjk : j = k
            · rw [hjk]; exact HOK.out.trans (by unfold letB digB; simp; omega)
            · exact hall.out j (by omega)
          case measure => simp [intOf]; omega
        · have q2 : decide ((c.toNat : Int) ≤ 122) = false := by simp; omega
          by_cases h0 : k = 0
          · subst h0
            have b2 : ∀ wx, (Instr.index 9 (.string s) (.int .i64 0)).run Tryz.prog wx = .ok (.int .u8 ((c.toNat : Nat) : Int)) wx := b1
            clear b1
            go_wp2
            go_ret
            refine ⟨ret_val ?_, rfl⟩
            rw [nameB_bad (k := 0) (by omega) (HOK.out.trans (by unfold letB digB; simp; omega))]
            rfl
          · have q0 : ((k : Int) == 0) = false := by simp; omega
            by_cases h3 : 48 ≤ c.toNat
            · have q3 : decide ((48 : Int) ≤ (c.toNat : Int)) = true := by simp; omega
              by_cases h4 : c.toNat ≤ 57
              · have q4 : decide ((c.toNat : Int) ≤ 57) = true := by simp; omega
                go_wp2
                go_roundw
                case rel =>
                  refine ⟨k + 1, by omega, by go_num, trivial, hide fun j hj => ?_⟩
                  by_cases hjk : j = k
                  · rw [hjk]; exact HOK.out.trans (by unfold letB digB; simp; omega)
                  · exact hall.out j (by omega)
                case measure => simp [intOf]; omega
              · have q4 : decide ((c.toNat : Int) ≤ 57) = false := by simp; omega
                go_wp2
                go_ret
                refine ⟨ret_val ?_, rfl⟩
                rw [nameB_bad (k := k) (by omega) (HOK.out.trans (by unfold letB digB; simp; omega))]
                rfl
            · have q3 : decide ((48 : Int) ≤ (c.toNat : Int)) = false := by simp; omega
              go_wp2
              go_ret
              refine ⟨ret_val ?_, rfl⟩
              rw [nameB_bad (k := k) (by omega) (HOK.out.trans (by unfold letB digB; simp; omega))]
              rfl
      · have q1 : decide ((97 : Int) ≤ (c.toNat : Int)) = false := by simp; omega
        by_cases h0 : k = 0
        · subst h0
          have b2 : ∀ wx, (Instr.index 9 (.string s) (.int .i64 0)).run Tryz.prog wx = .ok (.int .u8 ((c.toNat : Nat) : Int)) wx := b1
          clear b1
          go_wp2
          go_ret
          refine ⟨ret_val ?_, rfl⟩
          rw [nameB_bad (k := 0) (by omega) (HOK.out.trans (by unfold letB digB; simp; omega))]
          rfl
        · have q0 : ((k : Int) == 0) = false := by simp; omega
          by_cases h3 : 48 ≤ c.toNat
          · have q3 : decide ((48 : Int) ≤ (c.toNat : Int)) = true := by simp; omega
            by_cases h4 : c.toNat ≤ 57
            · have q4 : decide ((c.toNat : Int) ≤ 57) = true := by simp; omega
              go_wp2
              go_roundw
              case rel =>
                refine ⟨k + 1, by omega, by go_num, trivial, hide fun j hj => ?_⟩
                by_cases hjk : j = k
                · rw [hjk]; exact HOK.out.trans (by unfold letB digB; simp; omega)
                · exact hall.out j (by omega)
              case measure => simp [intOf]; omega
            · have q4 : decide ((c.toNat : Int) ≤ 57) = false := by simp; omega
              go_wp2
              go_ret
              refine ⟨ret_val ?_, rfl⟩
              rw [nameB_bad (k := k) (by omega) (HOK.out.trans (by unfold letB digB; simp; omega))]
              rfl
          · have q3 : decide ((48 : Int) ≤ (c.toNat : Int)) = false := by simp; omega
            go_wp2
            go_ret
            refine ⟨ret_val ?_, rfl⟩
            rw [nameB_bad (k := k) (by omega) (HOK.out.trans (by unfold letB digB; simp; omega))]
            rfl
    · have i1 : ¬ (k : Int) < (s.size : Int) := by omega
      have hkk : k = s.size := by omega
      have hn : (decide ((1 : Int) ≤ (s.size : Int)) && decide ((s.size : Int) ≤ 10)) = nameB l := by
        rw [nameB_all (fun j hj => hall.out j (by omega)), hs]
        congr 1
        · exact decide_eq_decide.2 (by omega)
        · exact decide_eq_decide.2 (by omega)
      rw [hn] at Q
      go_wp2_with (go_at_call 114; (with_reducible refine (Q.out _).mono ?_); rintro e w1 ⟨rfl, rfl⟩)
      go_ret
      exact ⟨rfl, rfl⟩
end Go.Proofs.YtedcbjefkhgiiabGreatDoor

/- Which events may be: the document's own Right. -/
namespace Go.Proofs.YtedcbjefkhgiiabGreatDoor
open Go.RowKit
attribute [local go_sem ↓] Go.wp_at_zero Go.wp_at_succ
theorem take_in (v : ByteArray) (j : Nat) (h : j < v.size) : (v.data.toList.take (j + 1)).all inB = ((v.data.toList.take j).all inB && inB (v.data.toList.getD j 0)) := by
  have hl : j < v.data.toList.length := by rw [← Lib.size_eq]; exact h
  rw [List.take_succ_eq_append_getElem hl, List.all_append]
  congr 1
  rw [List.getD_eq_getElem?_getD, List.getElem?_eq_getElem hl]
  simp
theorem take_whole (v : ByteArray) : (v.data.toList.take v.size).all inB = v.data.toList.all inB := by rw [List.take_of_length_le (by rw [← Lib.size_eq]; exact Nat.le_refl _)]
theorem three_empty (t r v : ByteArray) : (t ++ r ++ v).toList.isEmpty = (t.data.toList.isEmpty && (r.data.toList.isEmpty && v.data.toList.isEmpty)) := by
  rw [Lib.toList_data, ByteArray.data_append, ByteArray.data_append]
  simp only [Array.toList_append]
  cases t.data.toList <;> cases r.data.toList <;> cases v.data.toList <;> rfl
set_option maxRecDepth 100000 in
set_option maxHeartbeats 1000000 in
theorem refPut_tttt (s t r v : ByteArray) (w : World) (hs : s.size ≤ 1000) (ht : t.size ≤ 1000) (hr : r.size ≤ 1000) (hv : v.size ≤ 1000) (hT : nameB t.data.toList = true) (hR : nameB r.data.toList = true) (hl : v.size ≤ 20) : Calls Tryz.prog 53 #[.agg #[.int .i64 1, .string s, .string t, .string r, .string v]] w fun e w' => e = .returned (.bool (v.data.toList.all inB && nameB s.data.toList)) ∧ Below w.heap.size w w' := by
  have S := hide (fun wx => refName_any s wx hs)
  have T := hide (fun wx => refName_any t wx ht)
  have R := hide (fun wx => refName_any r wx hr)
  have bel := (Below.refl _ w).alloc (Nat.le_refl _) (.cells #[.int .i64 1, .string s, .string t, .string r, .string v] 33)
  have HB := hide bel
  clear bel
  have bk := hide (fun (j : Nat) (hj : j < v.size) wx => byte_get v j hj wx)
  rw [hT] at T
  rw [hR] at R
  have d1 : decide ((v.size : Int) ≤ 20) = true := by simp; omega
  clear hT
  have TK := hide (take_in v)
  have TW := hide (take_whole v)
  have l0 : (v.data.toList.take 0).all inB = true := rfl
  have L0 := hide l0
  clear l0
  generalize nameB s.data.toList = bS at S
  generalize hA : (fun j => (v.data.toList.take j).all inB) = A
  have eA : ∀ j, A j = (v.data.toList.take j).all inB := fun j => by rw [← hA]
  have EA := hide eA
  rw [← TW.out, ← eA]
  clear eA hA
  go_enter Tryz.func53, Tryz.ntmps53
  go_wp2_with (first
    | (go_at_call 82; (with_reducible refine (T.out _).mono ?_); rintro e w1 ⟨rfl, rfl⟩)
    | (go_at_call 82; (with_reducible refine (R.out _).mono ?_); rintro e w1 ⟨rfl, rfl⟩))
  clear T R d1
  go_loopw [3, 26] (fun ok i wr => ∃ j : Nat, j ≤ v.size ∧ i = .int .i64 j ∧ ok = .bool (A j) ∧ wr = w.alloc (.cells #[.int .i64 1, .string s, .string t, .string r, .string v] 33)) (fun _ i _ => v.size - (intOf i).toNat)
  case atStart => exact ⟨0, by omega, rfl, by rw [EA.out 0, L0.out], rfl⟩
  case round =>
    obtain ⟨j, hj, rfl, rfl, rfl⟩ := hrel
    by_cases hlt : j < v.size
    · have i1 : (j : Int) < (v.size : Int) := by omega
      have b1 := fun wx => bk.out j hlt wx
      have hn := TK.out j hlt
      rw [← EA.out, ← EA.out] at hn
      have HN := hide hn
      clear hn bk
      generalize v.data.toList.getD j 0 = c at b1 HN
      generalize A j = x at HN
      cases x
      · go_wp2
        go_roundw
        case rel => exact ⟨j + 1, by omega, by go_num, by rw [HN.out]; rfl, trivial⟩
        case measure => simp [intOf]; omega
      · by_cases h1 : 32 ≤ c.toNat
        · have q1 : decide ((32 : Int) ≤ (c.toNat : Int)) = true := by simp; omega
          go_wp2
          go_roundw
          case rel => exact ⟨j + 1, by omega, by go_num, by rw [HN.out]; unfold inB; simp [h1]; omega, trivial⟩
          case measure => simp [intOf]; omega
        · have q1 : decide ((32 : Int) ≤ (c.toNat : Int)) = false := by simp; omega
          go_wp2
          go_roundw
          case rel => exact ⟨j + 1, by omega, by go_num, by rw [HN.out]; unfold inB; simp [h1], trivial⟩
          case measure => simp [intOf]; omega
    · have i1 : ¬ (j : Int) < (v.size : Int) := by omega
      obtain rfl : j = v.size := by omega
      obtain ⟨x, hx⟩ : ∃ x, A v.size = x := ⟨_, rfl⟩
      rw [hx]
      have HX := hide hx
      clear hx
      cases x
      · go_wp2
        go_ret
        exact ⟨ret_val (by rw [HX.out]; rfl), HB.out⟩
      · go_wp2_with (go_at_call 82; (with_reducible refine (S.out _).mono ?_); rintro e w1 ⟨rfl, rfl⟩)
        go_ret
        exact ⟨ret_val (by rw [HX.out]; simp), HB.out⟩
set_option maxRecDepth 100000 in
set_option maxHeartbeats 1000000 in
theorem refPut_ttf (s t r v : ByteArray) (w : World) (hs : s.size ≤ 1000) (ht : t.size ≤ 1000) (hr : r.size ≤ 1000) (hv : v.size ≤ 1000) (hT : nameB t.data.toList = true) (hR : nameB r.data.toList = true) (hl : ¬ v.size ≤ 20) : Calls Tryz.prog 53 #[.agg #[.int .i64 1, .string s, .string t, .string r, .string v]] w fun e w' => e = .returned (.bool (false)) ∧ Below w.heap.size w w' := by
  have S := hide (fun wx => refName_any s wx hs)
  have T := hide (fun wx => refName_any t wx ht)
  have R := hide (fun wx => refName_any r wx hr)
  have bel := (Below.refl _ w).alloc (Nat.le_refl _) (.cells #[.int .i64 1, .string s, .string t, .string r, .string v] 33)
  have HB := hide bel
  clear bel
  have bk := hide (fun (j : Nat) (hj : j < v.size) wx => byte_get v j hj wx)
  rw [hT] at T
  rw [hR] at R
  have d1 : decide ((v.size : Int) ≤ 20) = false := by simp; omega
  clear hT
  clear S
  go_enter Tryz.func53, Tryz.ntmps53
  go_wp2_with (first
    | (go_at_call 82; (with_reducible refine (T.out _).mono ?_); rintro e w1 ⟨rfl, rfl⟩)
    | (go_at_call 82; (with_reducible refine (R.out _).mono ?_); rintro e w1 ⟨rfl, rfl⟩))
  go_loopw [3, 26] (fun ok i wr => ∃ j : Nat, j ≤ v.size ∧ i = .int .i64 j ∧ ok = .bool false ∧ wr = w.alloc (.cells #[.int .i64 1, .string s, .string t, .string r, .string v] 33)) (fun _ i _ => v.size - (intOf i).toNat)
  case atStart => exact ⟨0, by omega, rfl, rfl, rfl⟩
  case round =>
    obtain ⟨j, hj, rfl, rfl, rfl⟩ := hrel
    by_cases hlt : j < v.size
    · have i1 : (j : Int) < (v.size : Int) := by omega
      go_wp2
      go_roundw
      case rel => exact ⟨j + 1, by omega, by go_num, rfl, trivial⟩
      case measure => simp [intOf]; omega
    · have i1 : ¬ (j : Int) < (v.size : Int) := by omega
      go_wp2
      go_ret
      exact ⟨rfl, HB.out⟩
set_option maxRecDepth 100000 in
set_option maxHeartbeats 1000000 in
theorem refPut_tf (s t r v : ByteArray) (w : World) (hs : s.size ≤ 1000) (ht : t.size ≤ 1000) (hr : r.size ≤ 1000) (hv : v.size ≤ 1000) (hT : nameB t.data.toList = true) (hR : nameB r.data.toList = false) : Calls Tryz.prog 53 #[.agg #[.int .i64 1, .string s, .string t, .string r, .string v]] w fun e w' => e = .returned (.bool (false)) ∧ Below w.heap.size w w' := by
  have S := hide (fun wx => refName_any s wx hs)
  have T := hide (fun wx => refName_any t wx ht)
  have R := hide (fun wx => refName_any r wx hr)
  have bel := (Below.refl _ w).alloc (Nat.le_refl _) (.cells #[.int .i64 1, .string s, .string t, .string r, .string v] 33)
  have HB := hide bel
  clear bel
  have bk := hide (fun (j : Nat) (hj : j < v.size) wx => byte_get v j hj wx)
  rw [hT] at T
  rw [hR] at R
  clear hT
  clear S
  go_enter Tryz.func53, Tryz.ntmps53
  go_wp2_with (first
    | (go_at_call 82; (with_reducible refine (T.out _).mono ?_); rintro e w1 ⟨rfl, rfl⟩)
    | (go_at_call 82; (with_reducible refine (R.out _).mono ?_); rintro e w1 ⟨rfl, rfl⟩))
  go_loopw [3, 26] (fun ok i wr => ∃ j : Nat, j ≤ v.size ∧ i = .int .i64 j ∧ ok = .bool false ∧ wr = w.alloc (.cells #[.int .i64 1, .string s, .string t, .string r, .string v] 33)) (fun _ i _ => v.size - (intOf i).toNat)
  case atStart => exact ⟨0, by omega, rfl, rfl, rfl⟩
  case round =>
    obtain ⟨j, hj, rfl, rfl, rfl⟩ := hrel
    by_cases hlt : j < v.size
    · have i1 : (j : Int) < (v.size : Int) := by omega
      go_wp2
      go_roundw
      case rel => exact ⟨j + 1, by omega, by go_num, rfl, trivial⟩
      case measure => simp [intOf]; omega
    · have i1 : ¬ (j : Int) < (v.size : Int) := by omega
      go_wp2
      go_ret
      exact ⟨rfl, HB.out⟩
set_option maxRecDepth 100000 in
set_option maxHeartbeats 1000000 in
theorem refPut_f (s t r v : ByteArray) (w : World) (hs : s.size ≤ 1000) (ht : t.size ≤ 1000) (hr : r.size ≤ 1000) (hv : v.size ≤ 1000) (hT : nameB t.data.toList = false) : Calls Tryz.prog 53 #[.agg #[.int .i64 1, .string s, .string t, .string r, .string v]] w fun e w' => e = .returned (.bool (false)) ∧ Below w.heap.size w w' := by
  have S := hide (fun wx => refName_any s wx hs)
  have T := hide (fun wx => refName_any t wx ht)
  have R := hide (fun wx => refName_any r wx hr)
  have bel := (Below.refl _ w).alloc (Nat.le_refl _) (.cells #[.int .i64 1, .string s, .string t, .string r, .string v] 33)
  have HB := hide bel
  clear bel
  have bk := hide (fun (j : Nat) (hj : j < v.size) wx => byte_get v j hj wx)
  rw [hT] at T
  clear R
  clear hT
  clear S
  go_enter Tryz.func53, Tryz.ntmps53
  go_wp2_with (first
    | (go_at_call 82; (with_reducible refine (T.out _).mono ?_); rintro e w1 ⟨rfl, rfl⟩))
  go_loopw [3, 26] (fun ok i wr => ∃ j : Nat, j ≤ v.size ∧ i = .int .i64 j ∧ ok = .bool false ∧ wr = w.alloc (.cells #[.int .i64 1, .string s, .string t, .string r, .string v] 33)) (fun _ i _ => v.size - (intOf i).toNat)
  case atStart => exact ⟨0, by omega, rfl, rfl, rfl⟩
  case round =>
    obtain ⟨j, hj, rfl, rfl, rfl⟩ := hrel
    by_cases hlt : j < v.size
    · have i1 : (j : Int) < (v.size : Int) := by omega
      go_wp2
      go_roundw
      case rel => exact ⟨j + 1, by omega, by go_num, rfl, trivial⟩
      case measure => simp [intOf]; omega
    · have i1 : ¬ (j : Int) < (v.size : Int) := by omega
      go_wp2
      go_ret
      exact ⟨rfl, HB.out⟩
set_option maxRecDepth 100000 in
set_option maxHeartbeats 1000000 in
theorem refRight_rest (k : Int) (s t r v : ByteArray) (w : World) (hs : s.size ≤ 1000) (ht : t.size ≤ 1000) (hr : r.size ≤ 1000) (hv : v.size ≤ 1000) (hk : k ≠ 1) : Calls Tryz.prog 53 #[.agg #[.int .i64 k, .string s, .string t, .string r, .string v]] w fun e w' => e = .returned (.bool (rightB ⟨k, s, t, r, v⟩)) ∧ Below w.heap.size w w' := by
  have S := hide (fun wx => refName_any s wx hs)
  have T := hide (fun wx => refName_any t wx ht)
  have R := hide (fun wx => refName_any r wx hr)
  have bel := (Below.refl _ w).alloc (Nat.le_refl _) (.cells #[.int .i64 k, .string s, .string t, .string r, .string v] 33)
  have n1 : (k == 1) = false := by simp; exact hk
  have hve := toList_empty (s := v) rfl
  have h3e := three_empty t r v
  unfold rightB bodyB rowNB
  simp only
  rw [if_neg hk]
  by_cases h2 : k = 2
  · subst h2
    clear h3e
    rw [if_pos rfl]
    generalize nameB t.data.toList = bT at T ⊢
    generalize nameB r.data.toList = bR at R ⊢
    generalize nameB s.data.toList = bS at S ⊢
    generalize v.data.toList.isEmpty = eV at hve ⊢
    cases bT
    · go_enter Tryz.func53, Tryz.ntmps53
      go_wp2_with (go_at_call 82; (with_reducible refine (T.out _).mono ?_); rintro e w1 ⟨rfl, rfl⟩)
      go_ret
      exact ⟨ret_val (by simp), bel⟩
    · cases bR
      · go_enter Tryz.func53, Tryz.ntmps53
        go_wp2_with (first
          | (go_at_call 82; (with_reducible refine (T.out _).mono ?_); rintro e w1 ⟨rfl, rfl⟩)
          | (go_at_call 82; (with_reducible refine (R.out _).mono ?_); rintro e w1 ⟨rfl, rfl⟩))
        go_ret
        exact ⟨ret_val (by simp), bel⟩
      · cases eV
        · go_enter Tryz.func53, Tryz.ntmps53
          go_wp2_with (first
            | (go_at_call 82; (with_reducible refine (T.out _).mono ?_); rintro e w1 ⟨rfl, rfl⟩)
            | (go_at_call 82; (with_reducible refine (R.out _).mono ?_); rintro e w1 ⟨rfl, rfl⟩))
          go_ret
          exact ⟨ret_val (by simp), bel⟩
        · go_enter Tryz.func53, Tryz.ntmps53
          go_wp2_with (first
            | (go_at_call 82; (with_reducible refine (T.out _).mono ?_); rintro e w1 ⟨rfl, rfl⟩)
            | (go_at_call 82; (with_reducible refine (R.out _).mono ?_); rintro e w1 ⟨rfl, rfl⟩)
            | (go_at_call 82; (with_reducible refine (S.out _).mono ?_); rintro e w1 ⟨rfl, rfl⟩))
          go_ret
          exact ⟨ret_val (by simp), bel⟩
  have n2 : (k == 2) = false := by simp; exact h2
  rw [if_neg h2]
  clear T R hve
  by_cases h3 : k = 3
  · subst h3
    rw [if_pos rfl]
    generalize (t.data.toList.isEmpty && (r.data.toList.isEmpty && v.data.toList.isEmpty)) = e3 at h3e ⊢
    generalize nameB s.data.toList = bS at S ⊢
    cases e3
    · go_enter Tryz.func53, Tryz.ntmps53
      go_wp2
      go_ret
      exact ⟨ret_val (by simp), bel⟩
    · go_enter Tryz.func53, Tryz.ntmps53
      go_wp2_with (go_at_call 82; (with_reducible refine (S.out _).mono ?_); rintro e w1 ⟨rfl, rfl⟩)
      go_ret
      exact ⟨ret_val (by simp), bel⟩
  · have n3 : (k == 3) = false := by simp; exact h3
    rw [if_neg h3]
    go_enter Tryz.func53, Tryz.ntmps53
    go_wp2
    go_ret
    exact ⟨ret_val (by simp), bel⟩
theorem refRight_any (k : Int) (s t r v : ByteArray) (w : World) (hs : s.size ≤ 1000) (ht : t.size ≤ 1000) (hr : r.size ≤ 1000) (hv : v.size ≤ 1000) : Calls Tryz.prog 53 #[.agg #[.int .i64 k, .string s, .string t, .string r, .string v]] w fun e w' => e = .returned (.bool (rightB ⟨k, s, t, r, v⟩)) ∧ Below w.heap.size w w' := by
  by_cases hk : k = 1
  · subst hk
    have hl : v.data.toList.length = v.size := Array.length_toList
    unfold rightB bodyB rowNB valB
    simp only
    rw [if_pos trivial, hl]
    cases hT : nameB t.data.toList
    · refine (refPut_f s t r v w hs ht hr hv hT).mono fun e w' ⟨he, hb⟩ => ⟨he.trans (ret_val (by simp)), hb⟩
    · cases hR : nameB r.data.toList
      · refine (refPut_tf s t r v w hs ht hr hv hT hR).mono fun e w' ⟨he, hb⟩ => ⟨he.trans (ret_val (by simp)), hb⟩
      · by_cases h2 : v.size ≤ 20
        · refine (refPut_tttt s t r v w hs ht hr hv hT hR h2).mono fun e w' ⟨he, hb⟩ => ⟨he.trans (ret_val (by rw [decide_eq_true h2]; simp [Bool.and_comm])), hb⟩
        · refine (refPut_ttf s t r v w hs ht hr hv hT hR h2).mono fun e w' ⟨he, hb⟩ => ⟨he.trans (ret_val (by rw [decide_eq_false h2]; simp)), hb⟩
  · exact refRight_rest k s t r v w hs ht hr hv hk
end Go.Proofs.YtedcbjefkhgiiabGreatDoor
