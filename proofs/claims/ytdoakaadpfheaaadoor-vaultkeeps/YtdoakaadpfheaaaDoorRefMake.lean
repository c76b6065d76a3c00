/- The document's own Make: a subject's key now, and which one it is. -/
import Derived.Test.YtdoakaadpfheaaaDoorMake
namespace Go.Proofs.YtdoakaadpfheaaaDoor
open Go.RowKit Go.Maps
attribute [local go_sem ↓] Go.wp_at_zero Go.wp_at_succ
/-- What the document's two maps answer. -/
theorem RefV.hadRun {w : World} {c b bh bs : Nat} {sec : ByteArray} {n : Nat} {σ : Kept} (h : RefV w c b bh bs sec n σ) (s : ByteArray) (hs : s.size ≤ 60) :
    (Instr.lookup 99 (.map (some bh)) (.string s) false).run Tryd.prog w = .ok (.int .i64 ((σ s.data.toList).1 : Int)) w := by
  obtain ⟨D, o, i⟩ := h.had
  obtain ⟨v, ps, hr, hv⟩ := o.lookup law9 Tryd.underlying99 (zero3 w) (zd := .lit (.int .i64 0)) (zp := []) (plainElem_int Tryd.underlying3 (by decide)) (key9 s hs)
  rw [i.2] at hv
  rw [hr, intElem_is Tryd.underlying3 hv]
theorem RefV.hasRun {w : World} {c b bh bs : Nat} {sec : ByteArray} {n : Nat} {σ : Kept} (h : RefV w c b bh bs sec n σ) (s : ByteArray) (hs : s.size ≤ 60) :
    (Instr.lookup 100 (.map (some bs)) (.string s) false).run Tryd.prog w = .ok (.bool (σ s.data.toList).2) w := by
  obtain ⟨D, o, i⟩ := h.has
  obtain ⟨v, ps, hr, hv⟩ := o.lookup law9 Tryd.underlying100 (zero4 w) (zd := .lit (.bool false)) (zp := []) (plainElem_bool Tryd.underlying4 false) (key9 s hs)
  rw [i.2] at hv
  rw [hr, boolElem_is Tryd.underlying4 hv]
/-- What a call that keeps something of a subject leaves. -/
def RefKeeps (w w' : World) (c b bh bs : Nat) (sec : ByteArray) (n : Nat) (σ : Kept) : Prop := RefV w' c b bh bs sec n σ ∧ Stirred [bh, bs] w w'
theorem RefV.apart {w : World} {c b bh bs : Nat} {sec : ByteArray} {n : Nat} {σ : Kept} (h : RefV w c b bh bs sec n σ) : bh ≠ b ∧ bs ≠ b ∧ bh ≠ c ∧ bs ≠ c := by
  obtain ⟨D1, ⟨es1, k1, e1, _⟩, _⟩ := h.had
  obtain ⟨D2, ⟨es2, k2, e2, _⟩, _⟩ := h.has
  have hr := h.row
  unfold HasR at hr
  have hc := h.ref.1 0 (by omega)
  refine ⟨fun e => ?_, fun e => ?_, fun e => ?_, fun e => ?_⟩
  · rw [e, hr] at e1; cases e1
  · rw [e, hr] at e2; cases e2
  · rw [← e] at hc; simp [World.cell?, e1] at hc
  · rw [← e] at hc; simp [World.cell?, e2] at hc
theorem RefV.more {w : World} {c b bh bs : Nat} {sec : ByteArray} {n : Nat} {σ : Kept} (h : RefV w c b bh bs sec n σ) : RefV w c b bh bs sec (n + 1) σ := by
  obtain ⟨D1, o1, i1⟩ := h.had
  obtain ⟨D2, o2, i2⟩ := h.has
  exact ⟨h.row, ⟨D1, o1.mono (by omega), i1⟩, ⟨D2, o2.mono (by omega), i2⟩, h.ref, h.two⟩
theorem RefV.drew {w : World} {c b bh bs : Nat} {sec : ByteArray} {n : Nat} {σ : Kept} (h : RefV w c b bh bs sec n σ) : RefV w.drew c b bh bs sec n σ := h.turned (Stirred.refl [] w).drew (by simp)
set_option maxRecDepth 100000 in
set_option maxHeartbeats 1000000 in
theorem refMake_noName (b : Nat) (s : ByteArray) (w : World) (hs : s.size ≤ 60) (hN : nameB s.data.toList = false) :
    Calls Tryd.prog 34 #[.pointer (some ⟨b, 0, none⟩), .string s] w fun e w' => e = .returned (.tuple #[.int .i64 0, .string ByteArray.empty, .int .i64 5]) ∧ w' = w := by
  have Q := hide (fun wx => refName_any s wx (by omega))
  rw [hN] at Q
  go_enter Tryd.func34, Tryd.ntmps34
  go_wp2_with (go_at_call 44; (with_reducible refine (Q.out _).mono ?_); rintro e w1 ⟨rfl, rfl⟩)
  go_ret3
  exact ⟨rfl, rfl⟩
set_option maxRecDepth 100000 in
set_option maxHeartbeats 1000000 in
theorem refMake_held (c b bh bs : Nat) (sec s : ByteArray) (n : Nat) (σ : Kept) (w : World) (hp : sec.size ≤ 60) (hs : s.size ≤ 60) (hn : n < 1000) (hσ : (σ s.data.toList).1 ≤ n) (hN : nameB s.data.toList = true) (hV : RefV w c b bh bs sec n σ) (hh : (σ s.data.toList).2 = true) :
    Calls Tryd.prog 34 #[.pointer (some ⟨b, 0, none⟩), .string s] w fun e w' => e = .returned (.tuple #[.int .i64 ((σ s.data.toList).1 : Int), .string (keyB sec s (σ s.data.toList).1), .int .i64 0]) ∧ Below w.heap.size w w' := by
  have Q := hide (fun wx => refName_any s wx (by omega))
  rw [hN] at Q
  have c3 : w.cell? ⟨b, 3, none⟩ = some (.map (some bs)) := hV.row.cell 3
  have c2 : w.cell? ⟨b, 2, none⟩ = some (.map (some bh)) := hV.row.cell 2
  have hbl := hV.row.lt
  have r1 := hV.hasRun s hs
  rw [hh] at r1
  have r2 := hide (hV.drew.hadRun s hs)
  have RK := hide (refKey_any c b (σ s.data.toList).1 sec s _ _ w.drew hV.drew.row hV.drew.ref hp hs (by omega))
  have R2 := hide (fun wx (hb : Below w.drew.heap.size w.drew wx) => (hV.drew.below hb).hadRun s hs)
  generalize keyB sec s (σ s.data.toList).1 = k at RK
  generalize (σ s.data.toList).1 = a at RK r2 R2
  clear hV
  go_enter Tryd.func34, Tryd.ntmps34
  go_wp2_with (go_at_call 44; (with_reducible refine (Q.out _).mono ?_); rintro e w1 ⟨rfl, rfl⟩)
  go_region_held3 (fun wx => wx.cell? ⟨b, 2, none⟩ = some (.map (some bh)) ∧ (Instr.lookup 99 (.map (some bh)) (.string s) false).run Tryd.prog wx = .ok (.int .i64 (a : Int)) wx) (first | exact ⟨d2, e2⟩ | exact ⟨c2, r2.out⟩)
    (first
    | (go_at_call 62; (with_reducible refine RK.out.mono ?_); rintro e w3 ⟨rfl, hb3⟩; have d2 : w3.cell? ⟨b, 2, none⟩ = some (.map (some bh)) := (hb3.cell (p := ⟨b, 2, none⟩) hbl).trans c2; have e2 := R2.out w3 hb3))
  all_goals
    go_wp2
    go_ret3
    exact ⟨rfl, drewBelow hb3⟩
/-- What the two stores of a new key leave. -/
theorem RefV.made {w : World} {c b bh bs : Nat} {sec s : ByteArray} {n : Nat} {σ : Kept} (h : RefV w c b bh bs sec n σ) (hs : s.size ≤ 60) (hn : n < 1000) (hσ : (σ s.data.toList).1 ≤ n) (hh : (σ s.data.toList).2 = false) :
    ∃ w1 w2, (Instr.mapUpdate 99 (.map (some bh)) (.string s) (.int .i64 (((σ s.data.toList).1 : Int) + 1))).run Tryd.prog w = .ok () w1 ∧ Stirred [bh] w w1 ∧
      (Instr.mapUpdate 100 (.map (some bs)) (.string s) (.bool true)).run Tryd.prog w1 = .ok () w2 ∧ Stirred [bs] w1 w2 ∧ RefV w2 c b bh bs sec (n + 1) (made σ s.data.toList) := by
  obtain ⟨a1, a2, a3, a4⟩ := h.apart
  obtain ⟨D1, o1, i1⟩ := h.had
  obtain ⟨D2, o2, i2⟩ := h.has
  obtain ⟨w1, r1, p1, t1⟩ := o1.store law9 Tryd.underlying99 (by unfold maxLen; omega) (key9 s hs) (plainElem_int (H := Unit) Tryd.underlying3 (a := ((σ s.data.toList).1 : Int) + 1) (WalkArith.wf_i64 (by omega)))
  have t1' := Stirred.of_turned t1
  obtain ⟨w2, r2, p2, t2⟩ := (ownsMap_turned o2 t1' (by simp; exact fun e => h.two e.symm)).store law9 Tryd.underlying100 (by unfold maxLen; omega) (key9 s hs) (plainElem_bool (H := Unit) Tryd.underlying4 true)
  have t2' := Stirred.of_turned t2
  refine ⟨w1, w2, r1, t1', r2, t2', (h.row.turned t1' (by simp; exact fun e => a1 e.symm)).turned t2' (by simp; exact fun e => a2 e.symm), ⟨_, ownsMap_turned p1 t2' (by simp; exact h.two), i1.made hh⟩, ⟨_, p2, i2.made hh⟩,
    (h.ref.turned t1' (by simp; exact fun e => a3 e.symm)).turned t2' (by simp; exact fun e => a4 e.symm), h.two⟩
set_option maxRecDepth 100000 in
set_option maxHeartbeats 1000000 in
theorem refMake_new (c b bh bs : Nat) (sec s : ByteArray) (n : Nat) (σ : Kept) (w : World) (hp : sec.size ≤ 60) (hs : s.size ≤ 60) (hn : n < 1000) (hσ : (σ s.data.toList).1 ≤ n) (hN : nameB s.data.toList = true) (hV : RefV w c b bh bs sec n σ) (hh : (σ s.data.toList).2 = false) :
    Calls Tryd.prog 34 #[.pointer (some ⟨b, 0, none⟩), .string s] w fun e w' => e = .returned (.tuple #[.int .i64 (((σ s.data.toList).1 + 1 : Nat) : Int), .string (keyB sec s ((σ s.data.toList).1 + 1)), .int .i64 0]) ∧ RefKeeps w w' c b bh bs sec (n + 1) (made σ s.data.toList) := by
  have Q := hide (fun wx => refName_any s wx (by omega))
  rw [hN] at Q
  have c3 : w.cell? ⟨b, 3, none⟩ = some (.map (some bs)) := hV.row.cell 3
  have c2 : w.cell? ⟨b, 2, none⟩ = some (.map (some bh)) := hV.row.cell 2
  have hbl := hV.row.lt
  have r1 := hV.hasRun s hs
  rw [hh] at r1
  have r2 := hV.hadRun s hs
  obtain ⟨a1, a2, _, _⟩ := hV.apart
  obtain ⟨w1, w2, u1, t1, u2, t2, hV2⟩ := hV.made hs hn hσ hh
  have c31 : w1.cell? ⟨b, 3, none⟩ = some (.map (some bs)) := (t1.cell (p := ⟨b, 3, none⟩) hbl (by simp; exact fun e => a1 e.symm)).trans c3
  have c22 : w2.cell? ⟨b, 2, none⟩ = some (.map (some bh)) := hV2.row.cell 2
  have r3 := hide (hV2.drew.hadRun s hs)
  have RK := hide (refKey_any c b (made σ s.data.toList s.data.toList).1 sec s _ _ w2.drew hV2.drew.row hV2.drew.ref hp hs (by rw [made_at σ _ hh]; omega))
  have R2 := hide (fun wx (hb : Below w2.drew.heap.size w2.drew wx) => (hV2.drew.below hb).hadRun s hs)
  have hbl2 := hV2.row.lt
  rw [made_at σ _ hh] at RK r3 R2
  generalize keyB sec s ((σ s.data.toList).1 + 1) = k at RK
  have HV2 := hide hV2
  have T1 := hide t1
  have T2 := hide t2
  clear hV2 hV t1 t2
  generalize (σ s.data.toList).1 = a at RK r2 r3 R2 hσ u1
  have hw2 : ((a + 1 : Nat) : Int) = (a : Int) + 1 := by omega
  rw [hw2] at RK r3 R2 ⊢
  clear hw2
  go_enter Tryd.func34, Tryd.ntmps34
  go_wp2_with (go_at_call 44; (with_reducible refine (Q.out _).mono ?_); rintro e w9 ⟨rfl, rfl⟩)
  go_region_held3 (fun wx => wx.cell? ⟨b, 2, none⟩ = some (.map (some bh)) ∧ (Instr.lookup 99 (.map (some bh)) (.string s) false).run Tryd.prog wx = .ok (.int .i64 ((a : Int) + 1)) wx) (first | exact ⟨d2, e2⟩ | exact ⟨c22, r3.out⟩)
    (first
    | (go_at_call 62; (with_reducible refine RK.out.mono ?_); rintro e w3 ⟨rfl, hb3⟩; have d2 : w3.cell? ⟨b, 2, none⟩ = some (.map (some bh)) := (hb3.cell (p := ⟨b, 2, none⟩) hbl2).trans c22; have e2 := R2.out w3 hb3))
  all_goals
    go_wp2
    go_ret3
    exact ⟨rfl, HV2.out.below (drewBelow hb3), (((Stirred.mono T1.out (fun j hj => by simp at hj; simp [hj])).andThen T2.out (fun j hj => .inl (by simp at hj; simp [hj]))).then_below (drewBelow hb3))⟩
/-- Make of a name, whatever the document's vault has of it. -/
theorem refMake_any (c b bh bs : Nat) (sec s : ByteArray) (n : Nat) (σ : Kept) (w : World) (hp : sec.size ≤ 60) (hs : s.size ≤ 60) (hn : n < 1000) (hσ : (σ s.data.toList).1 ≤ n) (hN : nameB s.data.toList = true) (hV : RefV w c b bh bs sec n σ) :
    Calls Tryd.prog 34 #[.pointer (some ⟨b, 0, none⟩), .string s] w fun e w' => e = .returned (.tuple #[.int .i64 ((made σ s.data.toList s.data.toList).1 : Int), .string (keyB sec s (made σ s.data.toList s.data.toList).1), .int .i64 0]) ∧ RefKeeps w w' c b bh bs sec (n + 1) (made σ s.data.toList) := by
  cases hh : (σ s.data.toList).2
  · rw [made_at σ _ hh]
    exact refMake_new c b bh bs sec s n σ w hp hs hn hσ hN hV hh
  · rw [made_held hh]
    exact (refMake_held c b bh bs sec s n σ w hp hs hn hσ hN hV hh).mono fun e w' ⟨he, hb⟩ => ⟨he, (hV.below hb).more, Stirred.of_below hb _⟩
end Go.Proofs.YtdoakaadpfheaaaDoor
