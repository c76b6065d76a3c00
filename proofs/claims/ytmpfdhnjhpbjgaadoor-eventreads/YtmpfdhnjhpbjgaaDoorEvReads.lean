/- Which events may be, how they are written, and which one any text is, is the document's: the law's own walk. -/
import Derived.Test.YtmpfdhnjhpbjgaaDoorRefParse
import Derived.Test.YtmpfdhnjhpbjgaaDoorHappened
import Derived.Test.YtmpfdhnjhpbjgaaDoorBare
import Derived.Deep.DeepCutAuto
import Derived.Deep.RegionHeld3
namespace Go.Proofs.YtmpfdhnjhpbjgaaDoor
open Go.RowKit
attribute [local go_sem ↓] Go.wp_at_zero Go.wp_at_succ
set_option maxRecDepth 100000 in
set_option maxHeartbeats 400000 in
theorem longE_any (s : ByteArray) (w : World) : Calls Tryd.prog 11 #[.string s] w fun e w' => e = .returned (.bool (decide (60 < s.size))) ∧ w' = w := by
  go_enter Tryd.func11, Tryd.ntmps11
  go_wp2
  go_ret
  exact ⟨ret_val (by simp; omega), rfl⟩
set_option maxRecDepth 100000 in
set_option maxHeartbeats 400000 in
theorem bareE_same (n : Int) (w : World) (hE : TabE w) : Calls Tryd.prog 23 #[.iface 30 (.int .i64 n), .int .i64 n] w fun e w' => e = .returned (.bool true) ∧ Below w.heap.size w w' := by
  have Q := hide (place_arg n w hE)
  go_enter Tryd.func23, Tryd.ntmps23
  go_wp2_with (go_at_call 68; refine Q.out.mono ?_; rintro e w1 ⟨rfl, hb⟩)
  go_ret
  exact ⟨rfl, hb⟩
set_option maxRecDepth 100000 in
set_option maxHeartbeats 1000000 in
theorem longEvent_any (k : Int) (a b c d : ByteArray) (w : World) : Calls Tryd.prog 47 #[.agg #[.int .i64 k, .string a, .string b, .string c, .string d]] w fun e w' => e = .returned (.bool (decide (60 < a.size) || (decide (60 < b.size) || (decide (60 < c.size) || decide (60 < d.size))))) ∧ Below w.heap.size w w' := by
  have A := hide (fun wx => longE_any a wx)
  have B := hide (fun wx => longE_any b wx)
  have C := hide (fun wx => longE_any c wx)
  have D := hide (fun wx => longE_any d wx)
  have bel := (Below.refl _ w).alloc (Nat.le_refl _) (.cells #[.int .i64 k, .string a, .string b, .string c, .string d] 70)
  generalize decide (60 < a.size) = x at A ⊢
  generalize decide (60 < b.size) = y at B ⊢
  generalize decide (60 < c.size) = z at C ⊢
  generalize decide (60 < d.size) = u at D ⊢
  cases x
  · cases y
    · cases z
      · go_enter Tryd.func47, Tryd.ntmps47
        go_wp2_with (first
          | (go_at_call 11; (with_reducible refine (A.out _).mono ?_); rintro e w1 ⟨rfl, rfl⟩)
          | (go_at_call 11; (with_reducible refine (B.out _).mono ?_); rintro e w1 ⟨rfl, rfl⟩)
          | (go_at_call 11; (with_reducible refine (C.out _).mono ?_); rintro e w1 ⟨rfl, rfl⟩)
          | (go_at_call 11; (with_reducible refine (D.out _).mono ?_); rintro e w1 ⟨rfl, rfl⟩))
        go_ret
        exact ⟨ret_val (by simp), bel⟩
      · go_enter Tryd.func47, Tryd.ntmps47
        go_wp2_with (first
          | (go_at_call 11; (with_reducible refine (A.out _).mono ?_); rintro e w1 ⟨rfl, rfl⟩)
          | (go_at_call 11; (with_reducible refine (B.out _).mono ?_); rintro e w1 ⟨rfl, rfl⟩)
          | (go_at_call 11; (with_reducible refine (C.out _).mono ?_); rintro e w1 ⟨rfl, rfl⟩))
        go_ret
        exact ⟨ret_val (by simp), bel⟩
    · go_enter Tryd.func47, Tryd.ntmps47
      go_wp2_with (first
        | (go_at_call 11; (with_reducible refine (A.out _).mono ?_); rintro e w1 ⟨rfl, rfl⟩)
        | (go_at_call 11; (with_reducible refine (B.out _).mono ?_); rintro e w1 ⟨rfl, rfl⟩))
      go_ret
      exact ⟨ret_val (by simp), bel⟩
  · go_enter Tryd.func47, Tryd.ntmps47
    go_wp2_with (go_at_call 11; (with_reducible refine (A.out _).mono ?_); rintro e w1 ⟨rfl, rfl⟩)
    go_ret
    exact ⟨ret_val (by simp), bel⟩
theorem bareE_nil (w : World) : Calls Tryd.prog 23 #[.nilIface, .int .i64 0] w fun e w' => e = .returned (.bool true) ∧ Below w.heap.size w w' :=
  (bare_nil w).mono fun _ _ ⟨he, hw⟩ => ⟨he, hw ▸ Below.refl _ _⟩
/-- Both write an event alike. -/
theorem print_both (k : Int) (a b c d : ByteArray) (ha : a.size ≤ 1000) (hb : b.size ≤ 1000) (hc : c.size ≤ 1000) (hd : d.size ≤ 1000) : ∃ (T : ByteArray) (err : Value) (n : Int),
    (∀ w, Calls Tryd.prog 48 #[.agg #[.int .i64 k, .string a, .string b, .string c, .string d]] w fun e w' => e = .returned (.tuple #[.string T, .int .i64 n]) ∧ Below w.heap.size w w') ∧
    (∀ w, TabL w → Calls Tryd.prog 49 #[.agg #[.int .i64 k, .string a, .string b, .string c, .string d]] w fun e w' => e = .returned (.tuple #[.string T, err]) ∧ Below w.heap.size w w') ∧
    (∀ w, TabE w → Calls Tryd.prog 23 #[err, .int .i64 n] w fun e w' => e = .returned (.bool true) ∧ Below w.heap.size w w') := by
  cases hr : rightB ⟨k, a, b, c, d⟩
  · exact ⟨⟨#[]⟩, .iface 30 (.int .i64 1), 1, fun w => refPrint_bad k a b c d w ha hb hc hd hr, fun w _ => print_bad k a b c d w hr, fun w h => bareE_same 1 w h⟩
  · exact ⟨textB ⟨k, a, b, c, d⟩, .nilIface, 0, fun w => refPrint_ok k a b c d w ha hb hc hd hr, fun w h => print_ok k a b c d w hr h, fun w _ => bareE_nil w⟩
/-- Both read a text alike. -/
theorem parse_both (s : ByteArray) (hs : s.size ≤ 150) : ∃ (k : Int) (a b c d : ByteArray) (err : Value) (n : Int),
    (∀ w, TabM w → Calls Tryd.prog 52 #[.string s] w fun e w' => e = .returned (.tuple #[.agg #[.int .i64 k, .string a, .string b, .string c, .string d], .int .i64 n]) ∧ Below w.heap.size w w') ∧
    (∀ w, TabL w → TabM w → Calls Tryd.prog 53 #[.string s] w fun e w' => e = .returned (.tuple #[.agg #[.int .i64 k, .string a, .string b, .string c, .string d], err]) ∧ Below w.heap.size w w') ∧
    (∀ w, TabE w → Calls Tryd.prog 23 #[err, .int .i64 n] w fun e w' => e = .returned (.bool true) ∧ Below w.heap.size w w') := by
  obtain ⟨h1, h2⟩ := acc_same s
  have q := fun w hM => refParse_any s w hs hM
  unfold parsedV at q
  cases ha : accB s (splitEv s)
  · rw [← h1, ha, if_neg (by decide)] at q
    exact ⟨0, ⟨#[]⟩, ⟨#[]⟩, ⟨#[]⟩, ⟨#[]⟩, .iface 30 (.int .i64 3), 3, q, fun w hL hM => parse_bad s w (by omega) ha hL hM, fun w h => bareE_same 3 w h⟩
  · rw [← h1, ha, if_pos rfl, ← h2 ha] at q
    exact ⟨_, _, _, _, _, .nilIface, 0, q, fun w hL hM => parse_ok s w (by omega) ha hL hM, fun w _ => bareE_nil w⟩
set_option maxRecDepth 100000 in
set_option maxHeartbeats 1000000 in
theorem reads_long (k : Int) (a b c d s : ByteArray) (w : World) (h : (decide (60 < a.size) || (decide (60 < b.size) || (decide (60 < c.size) || decide (60 < d.size)))) = true ∨ 150 < s.size) : Calls Tryd.prog 9 #[.agg #[.int .i64 k, .string a, .string b, .string c, .string d], .string s] w fun e w' => e = .returned (.bool true) ∧ Below w.heap.size w w' := by
  have L := hide (fun wx => longEvent_any k a b c d wx)
  have bel := (Below.refl _ w).alloc (Nat.le_refl _) (.cells #[.int .i64 k, .string a, .string b, .string c, .string d] 70)
  cases hl : (decide (60 < a.size) || (decide (60 < b.size) || (decide (60 < c.size) || decide (60 < d.size))))
  · rw [hl] at L h
    have h' : 150 < s.size := by rcases h with h | h; cases h; exact h
    have d1 : decide ((150 : Int) < (s.size : Int)) = true := by simp; omega
    clear hl h
    go_enter Tryd.func9, Tryd.ntmps9
    go_wp2_with (go_at_call 47; (with_reducible refine (L.out _).mono ?_); rintro e w1 ⟨rfl, hb1⟩)
    go_ret
    exact ⟨rfl, bel.trans (hb1.mono (by simp))⟩
  · rw [hl] at L
    clear hl h
    go_enter Tryd.func9, Tryd.ntmps9
    go_wp2_with (go_at_call 47; (with_reducible refine (L.out _).mono ?_); rintro e w1 ⟨rfl, hb1⟩)
    go_ret
    exact ⟨rfl, bel.trans (hb1.mono (by simp))⟩
end Go.Proofs.YtmpfdhnjhpbjgaaDoor
