/- What the program's vault keeps of a subject. -/
import Derived.Test.YtdoakaadpfheaaaDoorOf
namespace Go.Proofs.YtdoakaadpfheaaaDoor
open Go.RowKit Go.Maps
attribute [local go_sem ↓] Go.wp_at_zero Go.wp_at_succ
/-- What a call that keeps something of a subject leaves. -/
def Keeps (w w' : World) (b : Nat) (mo : Option Nat) (sec : ByteArray) (n : Nat) (σ : Kept) : Prop :=
  ∃ m, ProgV w' b (some m) sec n σ ∧ (mo = some m ∨ (mo = none ∧ w.heap.size ≤ m)) ∧ Stirred (b :: mo.toList) w w'
theorem nilMap (w : World) : (binOp .eql 103 (.map none) (.map none)).run Tryd.prog w = .ok (.bool true) w := by kernel_rfl
theorem aMap (m : Nat) (w : World) : (binOp .eql 103 (.map (some m)) (.map none)).run Tryd.prog w = .ok (.bool false) w := by kernel_rfl
set_option maxRecDepth 100000 in
set_option maxHeartbeats 1000000 in
theorem keep_any (b : Nat) (mo : Option Nat) (sec s k : ByteArray) (a n : Nat) (σ σ' : Kept) (w : World) (hs : s.size ≤ 60) (hn : n < 1000) (hV : ProgV w b mo sec n σ)
    (hσ : ∀ D, HeldIs (keyL sec) D σ → HeldIs (keyL sec) (D.put (.string s.data.toList) (holdD a k.data.toList)) σ') :
    Calls Tryd.prog 65 #[.pointer (some ⟨b, 0, none⟩), .string s, .agg #[.int .i64 (a : Int), .string k]] w fun e w' => e = .returned (.tuple #[]) ∧ Keeps w w' b mo sec (n + 1) σ' := by
  have hkey := key9 s hs
  have c1 : w.cell? ⟨b, 1, none⟩ = some (.map mo) := hV.row.cell 1
  have f1 : w.frozen? ⟨b, 1, none⟩ = false := hV.row.free 1
  have hb := hV.row.lt
  cases mo with
  | none =>
    have hmm := @run_makeMap Tryd.prog
    have hq := nilMap
    have hown : (((w.setCell ⟨b, 1, none⟩ (.map (some (w.heap.size + 1)))).alloc (.cells #[.int .i64 (a : Int), .string k] 107)).alloc (.map #[] 0)).ownsMap Tryd.prog 9 holdElem (w.heap.size + 1) 0 (.map []) := by
      have h := World.ownsMap_made ((w.setCell ⟨b, 1, none⟩ (.map (some (w.heap.size + 1)))).alloc (.cells #[.int .i64 (a : Int), .string k] 107)) Tryd.prog 9 holdElem
      have e : ((w.setCell ⟨b, 1, none⟩ (.map (some (w.heap.size + 1)))).alloc (.cells #[.int .i64 (a : Int), .string k] 107)).heap.size = w.heap.size + 1 := by simp [World.setCell]
      rw [e] at h
      exact h
    obtain ⟨w1, hrun, ho1, ht1⟩ := hown.drew.store law9 Tryd.underlying103 (by unfold maxLen; omega) hkey (holdElem_mk (a : Int) k)
    have Hσ := hide (hσ _ ((hV.none rfl) ▸ heldIs0 (keyL sec)))
    have HR := hide (hV.row.set 1 (.map (some (w.heap.size + 1))))
    have HO := hide ho1
    have HT := hide ht1
    clear hown ho1 ht1 hσ hV
    go_enter Tryd.func65, Tryd.ntmps65
    go_wp2
    go_region
    go_end0
    have t0 : Stirred [b] w (((w.setCell ⟨b, 1, none⟩ (.map (some (w.heap.size + 1)))).alloc (.cells #[.int .i64 (a : Int), .string k] 107)).alloc (.map #[] 0)).drew :=
      (Stirred.setCell w ⟨b, 1, none⟩ _).then_below (((Below.refl _ _).alloc (Nat.le_refl _) _).alloc (by simp) _).drew
    have t1 := Stirred.of_turned HT.out
    exact ⟨rfl, w.heap.size + 1, ⟨(((HR.out.alloc _).alloc _).drew).turned t1 (by simp; omega), (fun e => by cases e), (fun m e => by cases e; exact ⟨_, HO.out.mono (by omega), Hσ.out⟩)⟩,
      .inr ⟨rfl, by omega⟩, t0.andThen t1 (fun j hj => .inr (by simp at hj; omega))⟩
  | some m =>
    obtain ⟨D, ho, hi⟩ := hV.held m rfl
    have hq := aMap m
    obtain ⟨w1, hrun, ho1, ht1⟩ := (ho.alloc (.cells #[.int .i64 (a : Int), .string k] 107)).drew.store law9 Tryd.underlying103 (by unfold maxLen; omega) hkey (holdElem_mk (a : Int) k)
    have Hσ := hide (hσ _ hi)
    have HR := hide hV.row
    have HO := hide ho1
    have HT := hide ht1
    have HA := hide (hV.apart rfl)
    clear ho ho1 ht1 hσ hV hi
    go_enter Tryd.func65, Tryd.ntmps65
    go_wp2
    go_region
    go_end0
    have t0 : Stirred (b :: (some m).toList) w (w.alloc (.cells #[.int .i64 (a : Int), .string k] 107)).drew := Stirred.of_below ((Below.refl _ w).alloc (Nat.le_refl _) _).drew _
    have t1 := Stirred.of_turned HT.out
    exact ⟨rfl, m, ⟨(HR.out.alloc _).drew.turned t1 (by simp; exact fun e => HA.out e.symm), (fun e => by cases e), (fun m' e => by cases e; exact ⟨_, HO.out, Hσ.out⟩)⟩,
      .inl rfl, t0.andThen t1 (fun j hj => .inl (by simp at hj; simp [hj]))⟩
end Go.Proofs.YtdoakaadpfheaaaDoor
