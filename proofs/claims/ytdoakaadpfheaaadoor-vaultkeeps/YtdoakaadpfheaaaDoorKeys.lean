/- Key: the program's own and the document's, for every subject and number. -/
import Derived.Test.YtdoakaadpfheaaaDoorForget
namespace Go.Proofs.YtdoakaadpfheaaaDoor
open Go.RowKit Go.Maps
attribute [local go_sem ↓] Go.wp_at_zero Go.wp_at_succ
set_option maxRecDepth 100000 in
set_option maxHeartbeats 1000000 in
theorem key_missing (b : Nat) (mo : Option Nat) (sec s : ByteArray) (n : Nat) (σ : Kept) (g : Int) (w : World) (hs : s.size ≤ 60) (hV : ProgV w b mo sec n σ) (hg : ¬ (1 ≤ g ∧ g ≤ ((σ s.data.toList).1 : Int))) :
    Calls Tryd.prog 39 #[.pointer (some ⟨b, 0, none⟩), .string s, .int .i64 g] w fun e w' => e = .returned (.tuple #[.string ByteArray.empty, .iface 30 (.int .i64 7)]) ∧ Below w.heap.size w w' := by
  have O := hide (of_any b mo sec s n σ w hs hV)
  generalize lastB sec σ s = k at O
  generalize (σ s.data.toList).1 = a at O hg
  by_cases h1 : g < 1
  · have d1 : decide (g < 1) = true := decide_eq_true h1
    clear hg
    go_enter Tryd.func39, Tryd.ntmps39
    go_wp2_with (go_at_call 63; (with_reducible refine O.out.mono ?_); rintro e w2 ⟨rfl, hb2⟩)
    go_ret2
    exact ⟨rfl, hb2.alloc hb2.size _⟩
  · have d1 : decide (g < 1) = false := decide_eq_false h1
    have d2 : decide ((a : Int) < g) = true := decide_eq_true (by omega)
    clear hg
    go_enter Tryd.func39, Tryd.ntmps39
    go_wp2_with (go_at_call 63; (with_reducible refine O.out.mono ?_); rintro e w2 ⟨rfl, hb2⟩)
    go_ret2
    exact ⟨rfl, hb2.alloc hb2.size _⟩
set_option maxRecDepth 100000 in
set_option maxHeartbeats 1000000 in
theorem key_gone (b : Nat) (mo : Option Nat) (sec s : ByteArray) (n : Nat) (σ : Kept) (g : Int) (w : World) (hs : s.size ≤ 60) (hV : ProgV w b mo sec n σ) (hg : 1 ≤ g ∧ g ≤ ((σ s.data.toList).1 : Int)) (hn : ¬ (g = ((σ s.data.toList).1 : Int) ∧ (σ s.data.toList).2 = true)) :
    Calls Tryd.prog 39 #[.pointer (some ⟨b, 0, none⟩), .string s, .int .i64 g] w fun e w' => e = .returned (.tuple #[.string ByteArray.empty, .iface 30 (.int .i64 8)]) ∧ Below w.heap.size w w' := by
  have O := hide (of_any b mo sec s n σ w hs hV)
  have d1 : decide (g < 1) = false := decide_eq_false (by omega)
  have d2 : decide (((σ s.data.toList).1 : Int) < g) = false := decide_eq_false (by omega)
  by_cases h1 : g < ((σ s.data.toList).1 : Int)
  · have d3 : decide (g < ((σ s.data.toList).1 : Int)) = true := decide_eq_true h1
    generalize lastB sec σ s = k at O
    generalize (σ s.data.toList).1 = a at O hg d2 d3
    clear hn hg h1
    go_enter Tryd.func39, Tryd.ntmps39
    go_wp2_with (go_at_call 63; (with_reducible refine O.out.mono ?_); rintro e w2 ⟨rfl, hb2⟩)
    go_ret2
    exact ⟨rfl, hb2.alloc hb2.size _⟩
  · have d3 : decide (g < ((σ s.data.toList).1 : Int)) = false := decide_eq_false h1
    have hh : (σ s.data.toList).2 = false := by
      cases e : (σ s.data.toList).2
      · rfl
      · exact absurd ⟨by omega, e⟩ hn
    rw [lastB_none hh] at O
    generalize (σ s.data.toList).1 = a at O hg d2 d3
    clear hn hg h1
    go_enter Tryd.func39, Tryd.ntmps39
    go_wp2_with (go_at_call 63; (with_reducible refine O.out.mono ?_); rintro e w2 ⟨rfl, hb2⟩)
    go_ret2
    exact ⟨rfl, hb2.alloc hb2.size _⟩
set_option maxRecDepth 100000 in
set_option maxHeartbeats 1000000 in
theorem key_there (b : Nat) (mo : Option Nat) (sec s : ByteArray) (n : Nat) (σ : Kept) (w : World) (hs : s.size ≤ 60) (hV : ProgV w b mo sec n σ) (hg : 1 ≤ (σ s.data.toList).1) (hh : (σ s.data.toList).2 = true) :
    Calls Tryd.prog 39 #[.pointer (some ⟨b, 0, none⟩), .string s, .int .i64 ((σ s.data.toList).1 : Int)] w fun e w' => e = .returned (.tuple #[.string (keyB sec s (σ s.data.toList).1), .nilIface]) ∧ Below w.heap.size w w' := by
  have O := hide (of_any b mo sec s n σ w hs hV)
  rw [lastB_held hh] at O
  have d := text_full (keyB_size sec s (σ s.data.toList).1)
  generalize keyB sec s (σ s.data.toList).1 = k at O d
  generalize (σ s.data.toList).1 = a at O hg
  have d1 : decide ((a : Int) < 1) = false := decide_eq_false (by omega)
  go_enter Tryd.func39, Tryd.ntmps39
  go_wp2_with (go_at_call 63; (with_reducible refine O.out.mono ?_); rintro e w2 ⟨rfl, hb2⟩)
  go_ret2
  exact ⟨rfl, hb2.alloc hb2.size _⟩
set_option maxRecDepth 100000 in
set_option maxHeartbeats 1000000 in
theorem refKey_missing (c b bh bs : Nat) (sec s : ByteArray) (n : Nat) (σ : Kept) (g : Int) (w : World) (hs : s.size ≤ 60) (hV : RefV w c b bh bs sec n σ) (hg : ¬ (1 ≤ g ∧ g ≤ ((σ s.data.toList).1 : Int))) :
    Calls Tryd.prog 38 #[.pointer (some ⟨b, 0, none⟩), .string s, .int .i64 g] w fun e w' => e = .returned (.tuple #[.string ByteArray.empty, .int .i64 7]) ∧ w' = w := by
  have c2 : w.cell? ⟨b, 2, none⟩ = some (.map (some bh)) := hV.row.cell 2
  have r2 := hV.hadRun s hs
  have q := fun wx => in_any g 1 ((σ s.data.toList).1 : Int) wx
  rw [show (decide (1 ≤ g) && decide (g ≤ ((σ s.data.toList).1 : Int))) = false by rw [Bool.eq_false_iff]; simp; omega] at q
  have Q := hide q
  clear q hV
  generalize (σ s.data.toList).1 = a at r2 Q hg
  go_enter Tryd.func38, Tryd.ntmps38
  go_wp2_with (go_at_call 53; (with_reducible refine (Q.out _).mono ?_); rintro e w1 ⟨rfl, rfl⟩)
  go_ret2
  exact ⟨rfl, rfl⟩
set_option maxRecDepth 100000 in
set_option maxHeartbeats 1000000 in
theorem refKey_gone (c b bh bs : Nat) (sec s : ByteArray) (n : Nat) (σ : Kept) (g : Int) (w : World) (hs : s.size ≤ 60) (hV : RefV w c b bh bs sec n σ) (hg : 1 ≤ g ∧ g ≤ ((σ s.data.toList).1 : Int)) (hn : ¬ (g = ((σ s.data.toList).1 : Int) ∧ (σ s.data.toList).2 = true)) :
    Calls Tryd.prog 38 #[.pointer (some ⟨b, 0, none⟩), .string s, .int .i64 g] w fun e w' => e = .returned (.tuple #[.string ByteArray.empty, .int .i64 8]) ∧ w' = w := by
  have c2 : w.cell? ⟨b, 2, none⟩ = some (.map (some bh)) := hV.row.cell 2
  have c3 : w.cell? ⟨b, 3, none⟩ = some (.map (some bs)) := hV.row.cell 3
  have r2 := hV.hadRun s hs
  have r1 := hV.hasRun s hs
  have q := fun wx => in_any g 1 ((σ s.data.toList).1 : Int) wx
  rw [show (decide (1 ≤ g) && decide (g ≤ ((σ s.data.toList).1 : Int))) = true by simp; omega] at q
  have Q := hide q
  clear q hV
  by_cases h1 : g = ((σ s.data.toList).1 : Int)
  · have hh : (σ s.data.toList).2 = false := by
      cases e : (σ s.data.toList).2
      · rfl
      · exact absurd ⟨h1, e⟩ hn
    rw [hh] at r1
    subst h1
    generalize (σ s.data.toList).1 = a at r2 Q
    clear hn hg
    go_enter Tryd.func38, Tryd.ntmps38
    go_wp2_with (go_at_call 53; (with_reducible refine (Q.out _).mono ?_); rintro e w1 ⟨rfl, rfl⟩)
    go_ret2
    exact ⟨rfl, rfl⟩
  · have d1 : decide (g = ((σ s.data.toList).1 : Int)) = false := decide_eq_false h1
    generalize (σ s.data.toList).1 = a at r2 Q d1 h1
    clear hn hg
    go_enter Tryd.func38, Tryd.ntmps38
    go_wp2_with (go_at_call 53; (with_reducible refine (Q.out _).mono ?_); rintro e w1 ⟨rfl, rfl⟩)
    go_ret2
    exact ⟨rfl, rfl⟩
set_option maxRecDepth 100000 in
set_option maxHeartbeats 1000000 in
theorem refKey_there (c b bh bs : Nat) (sec s : ByteArray) (n : Nat) (σ : Kept) (w : World) (hp : sec.size ≤ 60) (hs : s.size ≤ 60) (hn : n < 1000) (hσ : (σ s.data.toList).1 ≤ n) (hV : RefV w c b bh bs sec n σ) (hg : 1 ≤ (σ s.data.toList).1) (hh : (σ s.data.toList).2 = true) :
    Calls Tryd.prog 38 #[.pointer (some ⟨b, 0, none⟩), .string s, .int .i64 ((σ s.data.toList).1 : Int)] w fun e w' => e = .returned (.tuple #[.string (keyB sec s (σ s.data.toList).1), .int .i64 0]) ∧ Below w.heap.size w w' := by
  have c2 : w.cell? ⟨b, 2, none⟩ = some (.map (some bh)) := hV.row.cell 2
  have c3 : w.cell? ⟨b, 3, none⟩ = some (.map (some bs)) := hV.row.cell 3
  have r2 := hV.hadRun s hs
  have r1 := hV.hasRun s hs
  rw [hh] at r1
  have q := fun wx => in_any ((σ s.data.toList).1 : Int) 1 ((σ s.data.toList).1 : Int) wx
  rw [show (decide (1 ≤ ((σ s.data.toList).1 : Int)) && decide (((σ s.data.toList).1 : Int) ≤ ((σ s.data.toList).1 : Int))) = true by simp; omega] at q
  have Q := hide q
  have RK := hide (refKey_any c b (σ s.data.toList).1 sec s _ _ w hV.row hV.ref hp hs (by omega))
  clear q hV
  generalize keyB sec s (σ s.data.toList).1 = k at RK
  generalize (σ s.data.toList).1 = a at r2 Q RK hσ hg
  go_enter Tryd.func38, Tryd.ntmps38
  go_wp2_with (first
    | (go_at_call 53; (with_reducible refine (Q.out _).mono ?_); rintro e w1 ⟨rfl, rfl⟩)
    | (go_at_call 62; (with_reducible refine RK.out.mono ?_); rintro e w2 ⟨rfl, hb2⟩))
  go_ret2
  exact ⟨rfl, hb2⟩
/-- What both answer to Key. -/
theorem key_both (sec s : ByteArray) (n : Nat) (σ : Kept) (g : Int) (hp : sec.size ≤ 60) (hs : s.size ≤ 60) (hn : n < 1000) (hσ : (σ s.data.toList).1 ≤ n) :
    ∃ (a : ByteArray) (e : Int) (v : Value), (∀ w b mo, ProgV w b mo sec n σ → Calls Tryd.prog 39 #[.pointer (some ⟨b, 0, none⟩), .string s, .int .i64 g] w fun x w' => x = .returned (.tuple #[.string a, v]) ∧ Below w.heap.size w w') ∧
      (∀ w c b bh bs, RefV w c b bh bs sec n σ → Calls Tryd.prog 38 #[.pointer (some ⟨b, 0, none⟩), .string s, .int .i64 g] w fun x w' => x = .returned (.tuple #[.string a, .int .i64 e]) ∧ Below w.heap.size w w') ∧
      (∀ w, TabE w → Calls Tryd.prog 21 #[v, .int .i64 e] w fun x w' => x = .returned (.bool true) ∧ Below w.heap.size w w') := by
  by_cases h1 : 1 ≤ g ∧ g ≤ ((σ s.data.toList).1 : Int)
  · by_cases h2 : g = ((σ s.data.toList).1 : Int) ∧ (σ s.data.toList).2 = true
    · obtain ⟨rfl, hh⟩ := h2
      exact ⟨_, 0, .nilIface, fun w b mo hV => key_there b mo sec s n σ w hs hV (by omega) hh, fun w c b bh bs hV => refKey_there c b bh bs sec s n σ w hp hs hn hσ hV (by omega) hh, fun w _ => same_below (bare_nil w)⟩
    · exact ⟨_, 8, _, fun w b mo hV => key_gone b mo sec s n σ g w hs hV h1 h2, fun w c b bh bs hV => same_below (refKey_gone c b bh bs sec s n σ g w hs hV h1 h2), fun w hE => bare_same 8 w hE⟩
  · exact ⟨_, 7, _, fun w b mo hV => key_missing b mo sec s n σ g w hs hV h1, fun w c b bh bs hV => same_below (refKey_missing c b bh bs sec s n σ g w hs hV h1), fun w hE => bare_same 7 w hE⟩
/-- What both answer to Make, and what is kept then. -/
theorem make_both (sec s : ByteArray) (n : Nat) (σ : Kept) (hp : sec.size ≤ 60) (hs : s.size ≤ 60) (hn : n < 1000) (hσ : (σ s.data.toList).1 ≤ n) (hall : ∀ l, (σ l).1 ≤ n) :
    ∃ (k : Int) (a : ByteArray) (e : Int) (v : Value) (σ' : Kept), (∀ l, (σ' l).1 ≤ n + 1) ∧ (∀ w b mo, TabK w → ProgV w b mo sec n σ → Calls Tryd.prog 35 #[.pointer (some ⟨b, 0, none⟩), .string s] w fun x w' => x = .returned (.tuple #[.int .i64 k, .string a, v]) ∧ ∃ mo', ProgV w' b mo' sec (n + 1) σ' ∧ (mo' = mo ∨ (mo = none ∧ ∃ m, mo' = some m ∧ w.heap.size ≤ m)) ∧ Stirred (b :: mo.toList) w w') ∧
      (∀ w c b bh bs, RefV w c b bh bs sec n σ → Calls Tryd.prog 34 #[.pointer (some ⟨b, 0, none⟩), .string s] w fun x w' => x = .returned (.tuple #[.int .i64 k, .string a, .int .i64 e]) ∧ RefKeeps w w' c b bh bs sec (n + 1) σ') ∧
      (∀ w, TabE w → Calls Tryd.prog 21 #[v, .int .i64 e] w fun x w' => x = .returned (.bool true) ∧ Below w.heap.size w w') := by
  cases hN : nameB s.data.toList
  · exact ⟨0, ByteArray.empty, 5, .iface 30 (.int .i64 5), σ, fun l => by have := hall l; omega, fun w b mo _ hV => (make_noName b s w hN).mono fun x w' ⟨hx, hw⟩ => ⟨hx, mo, by rw [hw]; exact hV.more, .inl rfl, by rw [hw]; exact Stirred.refl _ _⟩,
      fun w c b bh bs hV => (refMake_noName b s w hs hN).mono fun x w' ⟨hx, hw⟩ => ⟨hx, by rw [hw]; exact ⟨hV.more, Stirred.refl _ _⟩⟩, fun w hE => bare_same 5 w hE⟩
  · refine ⟨_, _, 0, .nilIface, made σ s.data.toList, made_few hall, fun w b mo hK hV => (make_any b mo sec s n σ w hp hs hn hσ hN hK hV).mono fun x w' ⟨hx, m, h1, h2, h3⟩ => ⟨hx, some m, h1, ?_, h3⟩,
      fun w c b bh bs hV => refMake_any c b bh bs sec s n σ w hp hs hn hσ hN hV, fun w _ => same_below (bare_nil w)⟩
    rcases h2 with h2 | ⟨h2, h4⟩
    · exact .inl h2.symm
    · exact .inr ⟨h2, m, rfl, h4⟩
end Go.Proofs.YtdoakaadpfheaaaDoor
