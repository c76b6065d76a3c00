/- Texts of this proof, one behind the other. -/
import Derived.Defers
import Derived.Recover
import Derived.Deep.RegionHeld3
import Derived.Test.YtdjpghgnjcmdnaaGreatDoorPart9
/- A line's door: what was thrown is told, and nothing is thrown any further. -/
namespace Go.Proofs.YtdjpghgnjcmdnaaGreatDoor
open Go.RowKit Go.Shelf Go.Sort
theorem ifaceE_ne (n : Int) (w : World) : (binOp .neq 20 (.iface 25 (.int .i64 n)) .nilIface).run Tryz.prog w = .ok (.bool true) w := by kernel_rfl
theorem nilA_ne (w : World) : (binOp .neq 20 .nilIface .nilIface).run Tryz.prog w = .ok (.bool false) w := by kernel_rfl
set_option maxRecDepth 100000 in
set_option maxHeartbeats 1000000 in
theorem catch_thrown (b : Nat) (x : Value) (n : Int) (h0 : 0 ≤ n) (h1 : n ≤ 100) (older : List PanicEntry) (w : World) (hx : HasR w b 9 #[x]) (hP : Pow w) :
    CallsD Tryz.prog 34 #[.pointer (some ⟨b, 0, none⟩)] (.panicking ({ v := .iface 25 (.int .i64 n), recovered := false } :: older)) w fun e u' w' =>
      e = .returned (.tuple #[]) ∧ u' = .panicking ({ v := .iface 25 (.int .i64 n), recovered := true } :: older) ∧ ∃ w1, Below w.heap.size w w1 ∧ w' = w1.setCell ⟨b, 0, none⟩ (.string (wrongB n)) := by
  refine callsD_of_wpS Tryz.func34 rfl fun c₀ cs hu => ?_
  apply wpS_seq
  apply wpS_region
  have e1 := ifaceE_ne n
  simp [wpOpsS, go_sem, recoverD, hu, Tryz.ntmps34, Exit.thenS]
  rw [show (#[Value.pointer (some ⟨b, 0, none⟩)] ++ ((Array.replicate 6 undef).setIfInBounds 1 (Value.iface 25 (Value.int IntKind.i64 n))).setIfInBounds 0 (Value.iface 25 (Value.int IntKind.i64 n))) = #[.pointer (some ⟨b, 0, none⟩), .iface 25 (.int .i64 n), .iface 25 (.int .i64 n), undef, undef, undef, undef] from rfl]
  refine wpS_of_wp ?_
  have WR := hide (wrong_any n h0 h1 w hP)
  have HX := hide hx
  go_wp2_with (go_at_call 5; (with_reducible refine WR.out.mono ?_); rintro y w1 ⟨rfl, hb⟩; have B1 := hide hb; have X1 := HX.out.below hb HX.out.lt; have z0 : w1.cell? ⟨b, 0, none⟩ = some x := X1.cell 0; have f0 : w1.frozen? ⟨b, 0, none⟩ = false := X1.free 0; clear hb)
  exact ⟨rfl, _, rfl, .tuple #[], by simp [results, Tryz.results34], rfl, rfl, w1, B1.out, rfl⟩
set_option maxRecDepth 100000 in
set_option maxHeartbeats 1000000 in
theorem catch_none (b : Nat) (w : World) :
    CallsD Tryz.prog 34 #[.pointer (some ⟨b, 0, none⟩)] .returning w fun e u' w' => e = .returned (.tuple #[]) ∧ u' = .returning ∧ w' = w := by
  refine callsD_of_wpS Tryz.func34 rfl fun c₀ cs hu => ?_
  apply wpS_seq
  apply wpS_region
  have e1 := nilA_ne
  simp [wpOpsS, go_sem, recoverD, hu, Tryz.ntmps34, Exit.thenS]
  rw [show (#[Value.pointer (some ⟨b, 0, none⟩)] ++ ((Array.replicate 6 undef).setIfInBounds 1 Value.nilIface).setIfInBounds 0 Value.nilIface) = #[.pointer (some ⟨b, 0, none⟩), .nilIface, .nilIface, undef, undef, undef, undef] from rfl]
  refine wpS_of_wp ?_
  go_wp2
  refine ⟨rfl, c₀.mode, ?_, .tuple #[], by simp [results, Tryz.results34], rfl, hu, rfl⟩
  cases c₀
  rfl
end Go.Proofs.YtdjpghgnjcmdnaaGreatDoor

/- Who may be called so: the program's own Name and the document's come to one answer, for every text. -/
namespace Go.Proofs.YtdjpghgnjcmdnaaGreatDoor
open Go.RowKit
attribute [local go_sem ↓] Go.wp_at_zero Go.wp_at_succ
set_option maxRecDepth 100000 in
set_option maxHeartbeats 1000000 in
theorem name_any (s : ByteArray) (w : World) : Calls Tryz.prog 131 #[.string s] w fun e w' => e = .returned (.bool (nameB s.data.toList)) ∧ w' = w := by
  obtain ⟨l, hl⟩ : ∃ l, l = s.data.toList := ⟨_, rfl⟩
  have hs : l.length = s.size := by rw [hl]; exact Array.length_toList
  rw [← hl]
  by_cases h1 : s.size < 1
  · have d1 : decide ((s.size : Int) < 1) = true := by simp; omega
    have hf : nameB l = false := by unfold nameB; rw [decide_eq_false (by omega)]; rfl
    rw [hf]
    go_enter Tryz.func131, Tryz.ntmps131
    go_wp2
    go_ret
    exact ⟨rfl, rfl⟩
  have d1 : decide ((s.size : Int) < 1) = false := by simp; omega
  by_cases h2 : 10 < s.size
  · have d2 : decide ((10 : Int) < (s.size : Int)) = true := by simp; omega
    have hf : nameB l = false := by unfold nameB; rw [decide_eq_false (p := l.length ≤ 10) (by omega)]; simp
    rw [hf]
    go_enter Tryz.func131, Tryz.ntmps131
    go_wp2
    go_ret
    exact ⟨rfl, rfl⟩
  have d2 : decide ((10 : Int) < (s.size : Int)) = false := by simp; omega
  have b0 : ∀ wx, (Instr.index 9 (.string s) (.int .i64 0)).run Tryz.prog wx = .ok (.int .u8 (((l.getD 0 0).toNat : Nat) : Int)) wx := fun wx => by rw [hl]; exact byte_get s 0 (by omega) wx
  have bk := hide (fun (k : Nat) (hk : k < s.size) wx => byte_get s k hk wx)
  rw [← hl] at bk
  clear hl
  by_cases h3 : letB (l.getD 0 0) = true
  · have L0 := hide (fun wx => letter_any (l.getD 0 0) wx)
    have o0 : okAt l 0 = true := by unfold okAt; rw [h3]; rfl
    have O0 := hide o0
    generalize l.getD 0 0 = c0 at b0 L0 h3
    rw [h3] at L0
    go_enter Tryz.func131, Tryz.ntmps131
    go_wp2_with (go_at_call 170; (with_reducible refine (L0.out _).mono ?_); rintro e w1 ⟨rfl, rfl⟩)
    clear L0 b0 d1 d2 h3
    go_loopw [20] (fun i wr => ∃ k : Nat, k ≤ s.size ∧ i = .int .i64 k ∧ wr = w1 ∧ Hid (∀ j, j < k → okAt l j = true)) (fun i _ => s.size - (intOf i).toNat)
    case atStart => exact ⟨0, by omega, rfl, rfl, hide fun j hj => absurd hj (by omega)⟩
    case round =>
      obtain ⟨k, hk, rfl, rfl, hall⟩ := hrel
      by_cases hlt : k < s.size
      · have i1 : (k : Int) < (s.size : Int) := by omega
        have b1 := fun wx => bk.out k hlt wx
        have L1 := hide (fun wx => letter_any (l.getD k 0) wx)
        have D1 := hide (fun wx => digit_any (l.getD k 0) wx)
        have hok : okAt l k = (letB (l.getD k 0) || (!decide (k = 0) && digB (l.getD k 0))) := rfl
        have HOK := hide hok
        clear hok bk
        generalize l.getD k 0 = c at b1 L1 D1 HOK
        cases e1 : letB c
        · rw [e1] at L1 HOK
          cases e2 : digB c
          · rw [e2] at D1 HOK
            go_wp2_with (first
              | (go_at_call 170; (with_reducible refine (L1.out _).mono ?_); rintro e w1 ⟨rfl, rfl⟩)
              | (go_at_call 171; (with_reducible refine (D1.out _).mono ?_); rintro e w1 ⟨rfl, rfl⟩))
            go_ret
            refine ⟨ret_val ?_, rfl⟩
            rw [nameB_bad (k := k) (by omega) (HOK.out.trans (by simp))]
            rfl
          · rw [e2] at D1 HOK
            go_wp2_with (first
              | (go_at_call 170; (with_reducible refine (L1.out _).mono ?_); rintro e w1 ⟨rfl, rfl⟩)
              | (go_at_call 171; (with_reducible refine (D1.out _).mono ?_); rintro e w1 ⟨rfl, rfl⟩))
            go_roundw
            case rel =>
              refine ⟨k + 1, by omega, by go_num, trivial, hide fun j hj => ?_⟩
              by_cases hj0 : j = 0
              · rw [hj0]; exact O0.out
              · by_cases hjk : j = k
                · rw [hjk]; exact HOK.out.trans (by rw [hjk] at hj0; simp [hj0])
                · exact hall.out j (by omega)
            case measure => simp [intOf]; omega
        · rw [e1] at L1 HOK
          go_wp2_with (go_at_call 170; (with_reducible refine (L1.out _).mono ?_); rintro e w1 ⟨rfl, rfl⟩)
          go_roundw
          case rel =>
            refine ⟨k + 1, by omega, by go_num, trivial, hide fun j hj => ?_⟩
            by_cases hjk : j = k
            · rw [hjk]; exact HOK.out
            · exact hall.out j (by omega)
          case measure => simp [intOf]; omega
      · have i1 : ¬ (k : Int) < (s.size : Int) := by omega
        have hkk : k = s.size := by omega
        go_wp2
        go_ret
        refine ⟨ret_val ?_, rfl⟩
        rw [nameB_all (fun j hj => hall.out j (by omega)), decide_eq_true (by omega), decide_eq_true (by omega)]
        rfl
  · have L0 := hide (fun wx => letter_any (l.getD 0 0) wx)
    have o0 : nameB l = false := nameB_bad (k := 0) (by omega) (by unfold okAt; simp only [Bool.not_eq_true] at h3; rw [h3]; rfl)
    simp only [Bool.not_eq_true] at h3
    rw [o0]
    generalize l.getD 0 0 = c0 at b0 L0 h3
    rw [h3] at L0
    clear bk
    go_enter Tryz.func131, Tryz.ntmps131
    go_wp2_with (go_at_call 170; (with_reducible refine (L0.out _).mono ?_); rintro e w1 ⟨rfl, rfl⟩)
    go_ret
    exact ⟨rfl, rfl⟩
end Go.Proofs.YtdjpghgnjcmdnaaGreatDoor

/- Which events may be: the program's own Right. -/
namespace Go.Proofs.YtdjpghgnjcmdnaaGreatDoor
open Go.RowKit
attribute [local go_sem ↓] Go.wp_at_zero Go.wp_at_succ
theorem toList_empty {s : ByteArray} {b : Bool} (h : s.data.toList.isEmpty = b) : s.toList.isEmpty = b := by rw [Lib.toList_data]; exact h
set_option maxRecDepth 100000 in
set_option maxHeartbeats 400000 in
theorem out_runes (w : World) : PredAtRunes Tryz.prog 197 #[] outP w := fun W r _ _ => by
  unfold FnGives encR outP
  by_cases h1 : r < 32
  · have d1 : decide ((r : Int) < 32) = true := by simp; omega
    go_enter Tryz.func197, Tryz.ntmps197
    go_wp2
    go_ret
    exact ⟨ret_val (by simp [h1]), 0, rfl⟩
  · have d1 : decide ((r : Int) < 32) = false := by simp; omega
    go_enter Tryz.func197, Tryz.ntmps197
    go_wp2
    go_ret
    exact ⟨ret_val (by simp [h1]; omega), 0, rfl⟩
theorem contains_any (v : ByteArray) (w : World) : Calls Tryz.prog 198 #[.string v, .func (.func 197) #[] #[]] w fun e w' => e = .returned (.bool (!v.data.toList.all inB)) ∧ Below w.heap.size w w' := by
  rw [← idx_in]
  exact Any.strings_ContainsFunc_runes (ρ := laysContains_ren) laysContains 197 #[] (enters_of Tryz.func197 (by kernel_rfl) rfl) outP v w (out_runes w)
set_option maxRecDepth 100000 in
set_option maxHeartbeats 400000 in
theorem rightValue_any (v : ByteArray) (w : World) : Calls Tryz.prog 149 #[.string v] w fun e w' => e = .returned (.bool (valB v.data.toList)) ∧ Below w.heap.size w w' := by
  have C := hide (contains_any v w)
  have hl : v.data.toList.length = v.size := Array.length_toList
  unfold valB
  rw [hl]
  generalize v.data.toList.all inB = b at C ⊢
  by_cases h1 : v.size ≤ 20
  · have d1 : decide ((v.size : Int) ≤ 20) = true := by simp; omega
    have d2 : decide (v.size ≤ 20) = true := decide_eq_true h1
    rw [d2]
    go_enter Tryz.func149, Tryz.ntmps149
    go_wp2_with (go_at_call 198; (with_reducible refine C.out.mono ?_); rintro e w1 ⟨rfl, hb⟩)
    go_ret
    exact ⟨ret_val (by simp), hb⟩
  · have d1 : decide ((v.size : Int) ≤ 20) = false := by simp; omega
    have d2 : decide (v.size ≤ 20) = false := decide_eq_false h1
    rw [d2]
    go_enter Tryz.func149, Tryz.ntmps149
    go_wp2
    go_ret
    exact ⟨rfl, Below.refl _ _⟩
set_option maxRecDepth 100000 in
set_option maxHeartbeats 400000 in
theorem rowNamed_any (k : Int) (s t r v : ByteArray) (w : World) : Calls Tryz.prog 148 #[.agg #[.int .i64 k, .string s, .string t, .string r, .string v]] w fun e w' => e = .returned (.bool (nameB t.data.toList && nameB r.data.toList)) ∧ Below w.heap.size w w' := by
  have T := hide (fun wx => name_any t wx)
  have R := hide (fun wx => name_any r wx)
  cases b1 : nameB t.data.toList
  · rw [b1] at T
    clear R b1
    go_enter Tryz.func148, Tryz.ntmps148
    go_wp2_with (go_at_call 131; (with_reducible refine (T.out _).mono ?_); rintro e w1 ⟨rfl, rfl⟩)
    go_ret
    exact ⟨rfl, (Below.refl _ w).alloc (Nat.le_refl _) _⟩
  · rw [b1] at T
    clear b1
    generalize nameB r.data.toList = b2 at R
    go_enter Tryz.func148, Tryz.ntmps148
    go_wp2_with (first
      | (go_at_call 131; (with_reducible refine (T.out _).mono ?_); rintro e w1 ⟨rfl, rfl⟩)
      | (go_at_call 131; (with_reducible refine (R.out _).mono ?_); rintro e w1 ⟨rfl, rfl⟩))
    go_ret
    exact ⟨ret_val (by simp), (Below.refl _ w).alloc (Nat.le_refl _) _⟩
set_option maxRecDepth 100000 in
set_option maxHeartbeats 1000000 in
theorem rightE_any (k : Int) (s t r v : ByteArray) (w : World) : Calls Tryz.prog 112 #[.agg #[.int .i64 k, .string s, .string t, .string r, .string v]] w fun e w' => e = .returned (.bool (rightB ⟨k, s, t, r, v⟩)) ∧ Below w.heap.size w w' := by
  have S := hide (fun wx => name_any s wx)
  have R := hide (fun wx => rowNamed_any k s t r v wx)
  have V := hide (fun wx => rightValue_any v wx)
  have hv := toList_empty (s := v) rfl
  have ht := toList_empty (s := t) rfl
  have hr := toList_empty (s := r) rfl
  unfold rightB bodyB rowNB
  simp only
  generalize (nameB t.data.toList && nameB r.data.toList) = bR at R ⊢
  generalize nameB s.data.toList = bS at S ⊢
  generalize valB v.data.toList = bV at V ⊢
  generalize v.data.toList.isEmpty = eV at hv ⊢
  generalize t.data.toList.isEmpty = eT at ht ⊢
  generalize r.data.toList.isEmpty = eR at hr ⊢
  have bel := (Below.refl _ w).alloc (Nat.le_refl _) (.cells #[.int .i64 k, .string s, .string t, .string r, .string v] 69)
  cases bS
  · clear R V
    rw [Bool.false_and]
    go_enter Tryz.func112, Tryz.ntmps112
    go_wp2_with (go_at_call 131; (with_reducible refine (S.out _).mono ?_); rintro e w1 ⟨rfl, rfl⟩)
    go_ret
    exact ⟨rfl, bel⟩
  by_cases h1 : k = 1
  · subst h1
    cases bR
    · clear V
      go_enter Tryz.func112, Tryz.ntmps112
      go_wp2_with (first
        | (go_at_call 131; (with_reducible refine (S.out _).mono ?_); rintro e w1 ⟨rfl, rfl⟩)
        | (go_at_call 148; (with_reducible refine (R.out _).mono ?_); rintro e w1 ⟨rfl, hb1⟩))
      go_ret
      exact ⟨rfl, bel.trans (hb1.mono (by simp))⟩
    · go_enter Tryz.func112, Tryz.ntmps112
      go_wp2_with (first
        | (go_at_call 131; (with_reducible refine (S.out _).mono ?_); rintro e w1 ⟨rfl, rfl⟩)
        | (go_at_call 148; (with_reducible refine (R.out _).mono ?_); rintro e w1 ⟨rfl, hb1⟩; have c4 : w1.cell? ⟨w.heap.size, 4, none⟩ = some (.string v) := (hb1.cell (p := ⟨w.heap.size, 4, none⟩) (by simp)).trans (by simp); have l1 : w.heap.size ≤ w1.heap.size := Nat.le_trans (by simp) hb1.size)
        | (go_at_call 149; (with_reducible refine (V.out _).mono ?_); rintro e w2 ⟨rfl, hb2⟩))
      go_ret
      exact ⟨ret_val (by simp), (bel.trans (hb1.mono (by simp))).trans (hb2.mono l1)⟩
  have n1 : (k == 1) = false := by simp; omega
  rw [if_neg h1]
  by_cases h2 : k = 2
  · subst h2
    clear V
    cases bR
    · go_enter Tryz.func112, Tryz.ntmps112
      go_wp2_with (first
        | (go_at_call 131; (with_reducible refine (S.out _).mono ?_); rintro e w1 ⟨rfl, rfl⟩)
        | (go_at_call 148; (with_reducible refine (R.out _).mono ?_); rintro e w1 ⟨rfl, hb1⟩))
      go_ret
      exact ⟨rfl, bel.trans (hb1.mono (by simp))⟩
    · go_enter Tryz.func112, Tryz.ntmps112
      go_wp2_with (first
        | (go_at_call 131; (with_reducible refine (S.out _).mono ?_); rintro e w1 ⟨rfl, rfl⟩)
        | (go_at_call 148; (with_reducible refine (R.out _).mono ?_); rintro e w1 ⟨rfl, hb1⟩; have c4 : w1.cell? ⟨w.heap.size, 4, none⟩ = some (.string v) := (hb1.cell (p := ⟨w.heap.size, 4, none⟩) (by simp)).trans (by simp)))
      go_ret
      exact ⟨ret_val (by simp), bel.trans (hb1.mono (by simp))⟩
  have n2 : (k == 2) = false := by simp; omega
  rw [if_neg h2]
  clear R V
  by_cases h3 : k = 3
  · subst h3
    cases eT <;> cases eR <;> cases eV <;>
    · go_enter Tryz.func112, Tryz.ntmps112
      go_wp2_with (go_at_call 131; (with_reducible refine (S.out _).mono ?_); rintro e w1 ⟨rfl, rfl⟩)
      go_ret
      exact ⟨ret_val (by simp), bel⟩
  · have n3 : (k == 3) = false := by simp; omega
    rw [if_neg h3]
    go_enter Tryz.func112, Tryz.ntmps112
    go_wp2_with (go_at_call 131; (with_reducible refine (S.out _).mono ?_); rintro e w1 ⟨rfl, rfl⟩)
    go_ret
    exact ⟨ret_val (by simp), bel⟩
end Go.Proofs.YtdjpghgnjcmdnaaGreatDoor

/- How events are written: the program's own Print. -/
namespace Go.Proofs.YtdjpghgnjcmdnaaGreatDoor
open Go.RowKit
attribute [local go_sem ↓] Go.wp_at_zero Go.wp_at_succ
/-- The program's own table of kinds lies as its text lays it. -/
def layRow : Array Value := #[.string ⟨#[]⟩, .int .i64 0, .string ⟨#[112, 117, 116]⟩, .int .i64 5, .string ⟨#[100, 101, 108]⟩, .int .i64 4, .string ⟨#[103, 111, 110, 101]⟩, .int .i64 2]
def TabL (w : World) : Prop := HasR w 0 170 layRow
theorem TabL.lt {w : World} (h : TabL w) : 0 < w.heap.size := HasR.lt h
theorem TabL.below {w w' : World} {B : Nat} (h : TabL w) (hb : Below B w w') (hB : 0 < B) : TabL w' := HasR.below h hb hB
theorem textB_join (e : Ev) (l : List ByteArray) (h : Lib.join (l.map (·.data.toList)) [32] = printL e) : (⟨(Lib.join (l.map (·.data.toList)) [32]).toArray⟩ : ByteArray) = textB e := by rw [h]; rfl
theorem name_len {l : List UInt8} (h : nameB l = true) : l.length ≤ 10 := by
  unfold nameB at h
  simp only [Bool.and_eq_true, decide_eq_true_eq] at h
  exact h.1.2
theorem val_len {l : List UInt8} (h : valB l = true) : l.length ≤ 20 := by
  unfold valB at h
  simp only [Bool.and_eq_true, decide_eq_true_eq] at h
  exact h.1
theorem print_len {e : Ev} (h : rightB e = true) : (printL e).length ≤ 60 := by
  obtain ⟨hs, ⟨hk, ht, hr, hv⟩ | ⟨hk, ht, hr, hv⟩ | ⟨hk, ht, hr, hv⟩⟩ := right_kinds h
  · have h1 := name_len hs; have h2 := name_len ht; have h3 := name_len hr; have h4 := val_len hv
    unfold printL
    rw [if_pos hk]
    simp only [List.length_append, List.length_cons, wPut, List.length_nil]
    omega
  · have h1 := name_len hs; have h2 := name_len ht; have h3 := name_len hr
    unfold printL
    rw [if_neg (by omega), if_pos hk]
    simp only [List.length_append, List.length_cons, wDel, List.length_nil]
    omega
  · have h1 := name_len hs
    unfold printL
    rw [if_neg (by omega), if_neg (by omega)]
    simp only [List.length_append, List.length_cons, wGone, List.length_nil]
    omega
theorem join_put (s t r v : ByteArray) : Lib.join (([⟨#[112, 117, 116]⟩, s, t, r, v].take 5).map (·.data.toList)) [32] = printL ⟨1, s, t, r, v⟩ := by
  simp [Lib.join, List.intercalate, printL, wPut]
theorem join_del (s t r v : ByteArray) : Lib.join (([⟨#[100, 101, 108]⟩, s, t, r, v].take 4).map (·.data.toList)) [32] = printL ⟨2, s, t, r, v⟩ := by
  simp [Lib.join, List.intercalate, printL, wDel]
theorem join_gone (s t r v : ByteArray) : Lib.join (([⟨#[103, 111, 110, 101]⟩, s, t, r, v].take 2).map (·.data.toList)) [32] = printL ⟨3, s, t, r, v⟩ := by
  simp [Lib.join, List.intercalate, printL, wGone]
/-- What Print joins. -/
theorem join_five {a b c d f : ByteArray} {bk : Nat} {w : World} (h : HasR w bk 171 #[.string a, .string b, .string c, .string d, .string f]) (n : Nat) (hn : n ≤ 5)
    (hlen : (Lib.join (([a, b, c, d, f].take n).map (·.data.toList)) [32]).length ≤ 1000000) :
    Calls Tryz.prog 38 #[.slice (some ⟨bk, 0, none⟩) n 5, .string ⟨#[32]⟩] w fun e w' => e = .returned (.string ⟨(Lib.join (([a, b, c, d, f].take n).map (·.data.toList)) [32]).toArray⟩) ∧ Below w.heap.size w w' := by
  have hl : ([a, b, c, d, f].take n).length = n := by rw [List.length_take]; simp; omega
  have J := join_any bk 5 ([a, b, c, d, f].take n) w (fun j x hx => ?_) h.lt (by rw [hl]; exact hn) (by decide) hlen
  · rw [hl] at J; exact J
  · have hj : j < n := by
      have := (List.getElem?_eq_some_iff.1 hx).1
      omega
    rw [List.getElem?_take_of_lt hj] at hx
    rw [h.cell]
    match j, hx with
    | 0, hx => simp at hx; subst hx; rfl
    | 1, hx => simp at hx; subst hx; rfl
    | 2, hx => simp at hx; subst hx; rfl
    | 3, hx => simp at hx; subst hx; rfl
    | 4, hx => simp at hx; subst hx; rfl
    | j + 5, _ => omega
set_option maxRecDepth 100000 in
set_option maxHeartbeats 1000000 in
theorem print_bad (k : Int) (s t r v : ByteArray) (w : World) (h : rightB ⟨k, s, t, r, v⟩ = false) : Calls Tryz.prog 75 #[.agg #[.int .i64 k, .string s, .string t, .string r, .string v]] w fun e w' => e = .returned (.tuple #[.string ⟨#[]⟩, .iface 25 (.int .i64 1)]) ∧ Below w.heap.size w w' := by
  have R := hide (fun wx => rightE_any k s t r v wx)
  rw [h] at R
  clear h
  have bel := (Below.refl _ w).alloc (Nat.le_refl _) (.cells #[.int .i64 k, .string s, .string t, .string r, .string v] 69)
  go_enter Tryz.func75, Tryz.ntmps75
  go_wp2_with (go_at_call 112; (with_reducible refine (R.out _).mono ?_); rintro e w1 ⟨rfl, hb1⟩)
  go_ret2
  exact ⟨rfl, bel.trans (hb1.mono (by simp))⟩
set_option maxRecDepth 100000 in
set_option maxHeartbeats 1000000 in
theorem print_put (s t r v : ByteArray) (w : World) (h : rightB ⟨1, s, t, r, v⟩ = true) (hL : TabL w) : Calls Tryz.prog 75 #[.agg #[.int .i64 1, .string s, .string t, .string r, .string v]] w fun e w' => e = .returned (.tuple #[.string (textB ⟨1, s, t, r, v⟩), .nilIface]) ∧ Below w.heap.size w w' := by
  have R := hide (fun wx => rightE_any 1 s t r v wx)
  rw [h] at R
  have bel := (Below.refl _ w).alloc (Nat.le_refl _) (.cells #[.int .i64 1, .string s, .string t, .string r, .string v] 69)
  have l0 := hL.lt
  have J := hide (fun (wx : World) => join_five (w := (wx.alloc (.cells #[.string ⟨#[112, 117, 116]⟩, .string s, .string t, .string r, .string v] 171)).drew) ((HasR.new wx 171 _).drew) 5 (by decide) (by rw [join_put]; exact Nat.le_trans (print_len h) (by decide)))
  clear h
  simp only [textB_join ⟨1, s, t, r, v⟩ _ (join_put s t r v)] at J
  generalize textB ⟨1, s, t, r, v⟩ = T at J
  go_enter Tryz.func75, Tryz.ntmps75
  go_wp2_with (go_at_call 112; (with_reducible refine (R.out _).mono ?_); rintro e w1 ⟨rfl, hb1⟩)
  clear R
  have hX : HasR w1 w.heap.size 69 #[.int .i64 1, .string s, .string t, .string r, .string v] := (HasR.new w 69 _).below hb1 (by simp)
  have hL1 : TabL w1 := (hL.below bel l0).below hb1 (by simp <;> omega)
  have x0 : w1.cell? ⟨w.heap.size, 0, none⟩ = some (.int .i64 1) := hX.cell 0
  have x1 : w1.cell? ⟨w.heap.size, 1, none⟩ = some (.string s) := hX.cell 1
  have x2 : w1.cell? ⟨w.heap.size, 2, none⟩ = some (.string t) := hX.cell 2
  have x3 : w1.cell? ⟨w.heap.size, 3, none⟩ = some (.string r) := hX.cell 3
  have x4 : w1.cell? ⟨w.heap.size, 4, none⟩ = some (.string v) := hX.cell 4
  have y0 : w1.cell? ⟨0, 2, none⟩ = some (.string ⟨#[112, 117, 116]⟩) := hL1.cell 2
  have y1 : w1.cell? ⟨0, 3, none⟩ = some (.int .i64 5) := hL1.cell 3
  have l1 : w.heap.size < w1.heap.size := hX.lt
  have l2 : 0 < w1.heap.size := hL1.lt
  clear hX hL1 hL
  go_region_held3 (fun wx => wx.cell? ⟨w.heap.size, 0, none⟩ = some (.int .i64 1) ∧ wx.cell? ⟨w.heap.size, 1, none⟩ = some (.string s) ∧ wx.cell? ⟨w.heap.size, 2, none⟩ = some (.string t) ∧ wx.cell? ⟨w.heap.size, 3, none⟩ = some (.string r) ∧ wx.cell? ⟨w.heap.size, 4, none⟩ = some (.string v) ∧ wx.cell? ⟨0, 2, none⟩ = some (.string ⟨#[112, 117, 116]⟩)) (go_keep) (fail)
  go_wp2_with (go_at_call 38; (with_reducible refine (J.out w1).mono ?_); rintro e w2 ⟨rfl, hb2⟩)
  go_ret2
  have b1 := bel.trans (hb1.mono (by simp))
  exact ⟨rfl, b1.trans (((Below.refl _ w1).alloc (Nat.le_refl _) _).drew.trans (hb2.mono (by simp)) |>.mono b1.size)⟩
set_option maxRecDepth 100000 in
set_option maxHeartbeats 1000000 in
theorem print_del (s t r v : ByteArray) (w : World) (h : rightB ⟨2, s, t, r, v⟩ = true) (hL : TabL w) : Calls Tryz.prog 75 #[.agg #[.int .i64 2, .string s, .string t, .string r, .string v]] w fun e w' => e = .returned (.tuple #[.string (textB ⟨2, s, t, r, v⟩), .nilIface]) ∧ Below w.heap.size w w' := by
  have R := hide (fun wx => rightE_any 2 s t r v wx)
  rw [h] at R
  have bel := (Below.refl _ w).alloc (Nat.le_refl _) (.cells #[.int .i64 2, .string s, .string t, .string r, .string v] 69)
  have l0 := hL.lt
  have J := hide (fun (wx : World) => join_five (w := (wx.alloc (.cells #[.string ⟨#[100, 101, 108]⟩, .string s, .string t, .string r, .string v] 171)).drew) ((HasR.new wx 171 _).drew) 4 (by decide) (by rw [join_del]; exact Nat.le_trans (print_len h) (by decide)))
  clear h
  simp only [textB_join ⟨2, s, t, r, v⟩ _ (join_del s t r v)] at J
  generalize textB ⟨2, s, t, r, v⟩ = T at J
  go_enter Tryz.func75, Tryz.ntmps75
  go_wp2_with (go_at_call 112; (with_reducible refine (R.out _).mono ?_); rintro e w1 ⟨rfl, hb1⟩)
  clear R
  have hX : HasR w1 w.heap.size 69 #[.int .i64 2, .string s, .string t, .string r, .string v] := (HasR.new w 69 _).below hb1 (by simp)
  have hL1 : TabL w1 := (hL.below bel l0).below hb1 (by simp <;> omega)
  have x0 : w1.cell? ⟨w.heap.size, 0, none⟩ = some (.int .i64 2) := hX.cell 0
  have x1 : w1.cell? ⟨w.heap.size, 1, none⟩ = some (.string s) := hX.cell 1
  have x2 : w1.cell? ⟨w.heap.size, 2, none⟩ = some (.string t) := hX.cell 2
  have x3 : w1.cell? ⟨w.heap.size, 3, none⟩ = some (.string r) := hX.cell 3
  have x4 : w1.cell? ⟨w.heap.size, 4, none⟩ = some (.string v) := hX.cell 4
  have y0 : w1.cell? ⟨0, 4, none⟩ = some (.string ⟨#[100, 101, 108]⟩) := hL1.cell 4
  have y1 : w1.cell? ⟨0, 5, none⟩ = some (.int .i64 4) := hL1.cell 5
  have l1 : w.heap.size < w1.heap.size := hX.lt
  have l2 : 0 < w1.heap.size := hL1.lt
  clear hX hL1 hL
  go_region_held3 (fun wx => wx.cell? ⟨w.heap.size, 0, none⟩ = some (.int .i64 2) ∧ wx.cell? ⟨w.heap.size, 1, none⟩ = some (.string s) ∧ wx.cell? ⟨w.heap.size, 2, none⟩ = some (.string t) ∧ wx.cell? ⟨w.heap.size, 3, none⟩ = some (.string r) ∧ wx.cell? ⟨w.heap.size, 4, none⟩ = some (.string v) ∧ wx.cell? ⟨0, 4, none⟩ = some (.string ⟨#[100, 101, 108]⟩)) (go_keep) (fail)
  go_wp2_with (go_at_call 38; (with_reducible refine (J.out w1).mono ?_); rintro e w2 ⟨rfl, hb2⟩)
  go_ret2
  have b1 := bel.trans (hb1.mono (by simp))
  exact ⟨rfl, b1.trans (((Below.refl _ w1).alloc (Nat.le_refl _) _).drew.trans (hb2.mono (by simp)) |>.mono b1.size)⟩
set_option maxRecDepth 100000 in
set_option maxHeartbeats 1000000 in
theorem print_gone (s t r v : ByteArray) (w : World) (h : rightB ⟨3, s, t, r, v⟩ = true) (hL : TabL w) : Calls Tryz.prog 75 #[.agg #[.int .i64 3, .string s, .string t, .string r, .string v]] w fun e w' => e = .returned (.tuple #[.string (textB ⟨3, s, t, r, v⟩), .nilIface]) ∧ Below w.heap.size w w' := by
  have R := hide (fun wx => rightE_any 3 s t r v wx)
  rw [h] at R
  have bel := (Below.refl _ w).alloc (Nat.le_refl _) (.cells #[.int .i64 3, .string s, .string t, .string r, .string v] 69)
  have l0 := hL.lt
  have J := hide (fun (wx : World) => join_five (w := (wx.alloc (.cells #[.string ⟨#[103, 111, 110, 101]⟩, .string s, .string t, .string r, .string v] 171)).drew) ((HasR.new wx 171 _).drew) 2 (by decide) (by rw [join_gone]; exact Nat.le_trans (print_len h) (by decide)))
  clear h
  simp only [textB_join ⟨3, s, t, r, v⟩ _ (join_gone s t r v)] at J
  generalize textB ⟨3, s, t, r, v⟩ = T at J
  go_enter Tryz.func75, Tryz.ntmps75
  go_wp2_with (go_at_call 112; (with_reducible refine (R.out _).mono ?_); rintro e w1 ⟨rfl, hb1⟩)
  clear R
  have hX : HasR w1 w.heap.size 69 #[.int .i64 3, .string s, .string t, .string r, .string v] := (HasR.new w 69 _).below hb1 (by simp)
  have hL1 : TabL w1 := (hL.below bel l0).below hb1 (by simp <;> omega)
  have x0 : w1.cell? ⟨w.heap.size, 0, none⟩ = some (.int .i64 3) := hX.cell 0
  have x1 : w1.cell? ⟨w.heap.size, 1, none⟩ = some (.string s) := hX.cell 1
  have x2 : w1.cell? ⟨w.heap.size, 2, none⟩ = some (.string t) := hX.cell 2
  have x3 : w1.cell? ⟨w.heap.size, 3, none⟩ = some (.string r) := hX.cell 3
  have x4 : w1.cell? ⟨w.heap.size, 4, none⟩ = some (.string v) := hX.cell 4
  have y0 : w1.cell? ⟨0, 6, none⟩ = some (.string ⟨#[103, 111, 110, 101]⟩) := hL1.cell 6
  have y1 : w1.cell? ⟨0, 7, none⟩ = some (.int .i64 2) := hL1.cell 7
  have l1 : w.heap.size < w1.heap.size := hX.lt
  have l2 : 0 < w1.heap.size := hL1.lt
  clear hX hL1 hL
  go_region_held3 (fun wx => wx.cell? ⟨w.heap.size, 0, none⟩ = some (.int .i64 3) ∧ wx.cell? ⟨w.heap.size, 1, none⟩ = some (.string s) ∧ wx.cell? ⟨w.heap.size, 2, none⟩ = some (.string t) ∧ wx.cell? ⟨w.heap.size, 3, none⟩ = some (.string r) ∧ wx.cell? ⟨w.heap.size, 4, none⟩ = some (.string v) ∧ wx.cell? ⟨0, 6, none⟩ = some (.string ⟨#[103, 111, 110, 101]⟩)) (go_keep) (fail)
  go_wp2_with (go_at_call 38; (with_reducible refine (J.out w1).mono ?_); rintro e w2 ⟨rfl, hb2⟩)
  go_ret2
  have b1 := bel.trans (hb1.mono (by simp))
  exact ⟨rfl, b1.trans (((Below.refl _ w1).alloc (Nat.le_refl _) _).drew.trans (hb2.mono (by simp)) |>.mono b1.size)⟩
/-- What Print answers. -/
theorem print_ok (k : Int) (s t r v : ByteArray) (w : World) (h : rightB ⟨k, s, t, r, v⟩ = true) (hL : TabL w) : Calls Tryz.prog 75 #[.agg #[.int .i64 k, .string s, .string t, .string r, .string v]] w fun e w' => e = .returned (.tuple #[.string (textB ⟨k, s, t, r, v⟩), .nilIface]) ∧ Below w.heap.size w w' := by
  obtain ⟨_, ⟨hk, _⟩ | ⟨hk, _⟩ | ⟨hk, _⟩⟩ := right_kinds h
  · obtain rfl : k = 1 := hk
    exact print_put s t r v w h hL
  · obtain rfl : k = 2 := hk
    exact print_del s t r v w h hL
  · obtain rfl : k = 3 := hk
    exact print_gone s t r v w h hL
end Go.Proofs.YtdjpghgnjcmdnaaGreatDoor
