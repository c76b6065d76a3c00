/- A subject's key of a number: the program's own way to it, and the document's. -/
import Derived.Test.YtdoakaadpfheaaaDoorKeep
import Derived.Deep.RegionWith
import Derived.Deep.DeepCutAuto
namespace Go.Proofs.YtdoakaadpfheaaaDoor
open Go.RowKit Go.Maps
attribute [local go_sem ↓] Go.wp_at_zero Go.wp_at_succ
/-- Three texts that lie side by side are the parts of a mark. -/
theorem parts3 {w : World} (b : Nat) (p q r : ByteArray) (hb : b < w.heap.size) (h0 : w.cell? ⟨b, 0, none⟩ = some (.string p)) (h1 : w.cell? ⟨b, 1, none⟩ = some (.string q)) (h2 : w.cell? ⟨b, 2, none⟩ = some (.string r)) :
    Parts w (.slice (some ⟨b, 0, none⟩) 3 3) [p, q, r] := by
  refine ⟨_, 3, rfl, .inr ⟨b, 0, rfl, hb, fun k hk => ?_⟩⟩
  have hk' : k < 3 := hk
  match k, hk' with
  | 0, _ => exact h0
  | 1, _ => exact h1
  | 2, _ => exact h2
def num3 (n : Nat) : ByteArray := ⟨(num8 n).toArray⟩
theorem num3_size (n : Nat) : (num3 n).size = 8 := num8_len n
theorem mark_three (sec s q : ByteArray) (w : World) (hp : sec.size ≤ 60) (hs : s.size ≤ 60) (hq : q.size = 8) (hK : TabK w) :
    Calls Tryd.prog 17 #[.int .u8 118, .slice (some ⟨w.heap.size, 0, none⟩) 3 3] (w.alloc (.cells #[.string sec, .string s, .string q] 9)) fun e w' => e = .returned (.string (markB 118 [sec, s, q])) ∧ Below w.heap.size w w' :=
  (mark_any 118 _ [sec, s, q] (w.alloc (.cells #[.string sec, .string s, .string q] 9)) (parts3 w.heap.size sec s q (by simp) (by simp) (by simp) (by simp)) (by simp) (by simp; omega) (hK.below ((Below.refl _ w).alloc (Nat.le_refl _) _) hK.lt)).mono
    fun _ _ ⟨he, hb⟩ => ⟨he, ((Below.refl _ w).alloc (Nat.le_refl _) _).trans (hb.mono (by simp))⟩
theorem refMark_three (c : Nat) (sec s q : ByteArray) (w : World) (hp : sec.size ≤ 60) (hs : s.size ≤ 60) (hq : q.size = 8) (hR : RefR w c) :
    Calls Tryd.prog 18 #[.pointer (some ⟨c, 0, none⟩), .int .u8 118, .slice (some ⟨w.heap.size, 0, none⟩) 3 3] (w.alloc (.cells #[.string sec, .string s, .string q] 9)) fun e w' => e = .returned (.string (markB 118 [sec, s, q])) ∧ Below w.heap.size w w' :=
  (refMark_any c 118 _ [sec, s, q] (w.alloc (.cells #[.string sec, .string s, .string q] 9)) (parts3 w.heap.size sec s q (by simp) (by simp) (by simp) (by simp)) (by simp) (by simp; omega) (hR.below ((Below.refl _ w).alloc (Nat.le_refl _) _) hR.lt)).mono
    fun _ _ ⟨he, hb⟩ => ⟨he, ((Below.refl _ w).alloc (Nat.le_refl _) _).trans (hb.mono (by simp))⟩
theorem num_n (n : Nat) (h : n < 1000000) (w : World) : Calls Tryd.prog 15 #[.int .i64 (n : Int)] w fun e w' => e = .returned (.string (num3 n)) ∧ Below w.heap.size w w' := by
  have q := num_any (n : Int) w
  rw [u64of_nat n (by omega)] at q
  exact q
theorem refNum_n (n : Nat) (h : n < 1000000) (w : World) : Calls Tryd.prog 16 #[.int .i64 (n : Int)] w fun e w' => e = .returned (.string (num3 n)) ∧ Below w.heap.size w w' := by
  have q := refNum_any (n : Int) w
  rw [u64of_nat n (by omega)] at q
  exact q
theorem sum_key (sec s : ByteArray) (n : Nat) (w : World) (hK : TabK w) : Calls Tryd.prog 11 #[.string (markB 118 [sec, s, num3 n])] w fun e w' => e = .returned (.string (keyB sec s n)) ∧ Below w.heap.size w w' :=
  sum_any _ (by rw [markB_size]; omega) w hK
theorem refSum_key (c : Nat) (sec s : ByteArray) (n : Nat) (w : World) (hR : RefR w c) : Calls Tryd.prog 12 #[.pointer (some ⟨c, 0, none⟩), .string (markB 118 [sec, s, num3 n])] w fun e w' => e = .returned (.string (keyB sec s n)) ∧ Below w.heap.size w w' :=
  refSum_any c _ (by rw [markB_size]; omega) w hR
theorem drewBelow {w w' : World} (h : Below w.drew.heap.size w.drew w') : Below w.heap.size w w' := ⟨h.os, h.tape, h.output, h.size, h.block⟩
set_option maxRecDepth 100000 in
set_option maxHeartbeats 1000000 in
theorem derive_any (b n : Nat) (sec s : ByteArray) (mo : Option Nat) (w : World) (hr : HasR w b 105 #[.string sec, .map mo]) (hp : sec.size ≤ 60) (hs : s.size ≤ 60) (hn : n < 1000000) (hK : TabK w) :
    Calls Tryd.prog 64 #[.pointer (some ⟨b, 0, none⟩), .string s, .int .i64 (n : Int)] w fun e w' => e = .returned (.string (keyB sec s n)) ∧ Below w.heap.size w w' := by
  have c0 : w.cell? ⟨b, 0, none⟩ = some (.string sec) := hr.cell 0
  have hbl := hr.lt
  have N := hide (fun wx => num_n n hn wx)
  have M := hide (fun wx hKx => mark_three sec s (num3 n) wx hp hs (num3_size n) hKx)
  have S := hide (fun wx hKx => sum_key sec s n wx hKx)
  have hKd : TabK w.drew := hK.below (Below.refl _ w).drew hK.lt
  generalize keyB sec s n = k at S
  generalize markB 118 [sec, s, num3 n] = mk at S M
  generalize num3 n = q at N M
  go_enter Tryd.func64, Tryd.ntmps64
  go_wp2
  go_region_with (first
    | (go_at_call 15; (with_reducible refine (N.out _).mono ?_); rintro e w1 ⟨rfl, hb1⟩; have hK1 := hKd.below hb1 hKd.lt; have c1 : w1.cell? ⟨b, 0, none⟩ = some (.string sec) := (hb1.cell (p := ⟨b, 0, none⟩) hbl).trans c0)
    | (go_at_call 17; (with_reducible refine (M.out _ hK1).mono ?_); rintro e w2 ⟨rfl, hb2⟩; have hK2 := hK1.below hb2 hK1.lt)
    | (go_at_call 11; (with_reducible refine (S.out _ hK2).mono ?_); rintro e w3 ⟨rfl, hb3⟩))
  all_goals
    go_wp2
    go_ret
    have s1 := (drewBelow hb1).size
    exact ⟨rfl, ((drewBelow hb1).trans (hb2.mono s1)).trans (hb3.mono (Nat.le_trans s1 hb2.size))⟩
set_option maxRecDepth 100000 in
set_option maxHeartbeats 2000000 in
theorem refKey_any (c b n : Nat) (sec s : ByteArray) (m1 m2 : Value) (w : World) (hr : HasR w b 102 #[.pointer (some ⟨c, 0, none⟩), .string sec, m1, m2]) (hR : RefR w c) (hp : sec.size ≤ 60) (hs : s.size ≤ 60) (hn : n < 1000000) :
    Calls Tryd.prog 62 #[.pointer (some ⟨b, 0, none⟩), .string s, .int .i64 (n : Int)] w fun e w' => e = .returned (.string (keyB sec s n)) ∧ Below w.heap.size w w' := by
  have c0 : w.cell? ⟨b, 0, none⟩ = some (.pointer (some ⟨c, 0, none⟩)) := hr.cell 0
  have d0 : w.cell? ⟨b, 1, none⟩ = some (.string sec) := hr.cell 1
  have hbl := hr.lt
  have N := hide (fun wx => refNum_n n hn wx)
  have M := hide (fun wx hRx => refMark_three c sec s (num3 n) wx hp hs (num3_size n) hRx)
  have S := hide (fun wx hRx => refSum_key c sec s n wx hRx)
  have hRd : RefR w.drew c := hR.below (Below.refl _ w).drew hR.lt
  generalize keyB sec s n = k at S
  generalize markB 118 [sec, s, num3 n] = mk at S M
  generalize num3 n = q at N M
  go_enter Tryd.func62, Tryd.ntmps62
  go_wp2
  go_region_held3 (fun wx => wx.cell? ⟨b, 0, none⟩ = some (.pointer (some ⟨c, 0, none⟩)) ∧ wx.cell? ⟨b, 1, none⟩ = some (.string sec)) (first | exact ⟨c3, d3⟩ | exact ⟨c2, d2⟩ | exact ⟨c1, d1⟩ | go_keep)
    (first
    | (go_at_call 16; (with_reducible refine (N.out _).mono ?_); rintro e w1 ⟨rfl, hb1⟩; have hR1 := hRd.below hb1 hRd.lt; have s1 := (drewBelow hb1).size; have l1 : b < w1.heap.size := Nat.lt_of_lt_of_le hbl s1; have c1 : w1.cell? ⟨b, 0, none⟩ = some (.pointer (some ⟨c, 0, none⟩)) := (hb1.cell (p := ⟨b, 0, none⟩) hbl).trans c0; have d1 : w1.cell? ⟨b, 1, none⟩ = some (.string sec) := (hb1.cell (p := ⟨b, 1, none⟩) hbl).trans d0)
    | (go_at_call 18; (with_reducible refine (M.out _ hR1).mono ?_); rintro e w2 ⟨rfl, hb2⟩; have hR2 := hR1.below hb2 hR1.lt; have c2 : w2.cell? ⟨b, 0, none⟩ = some (.pointer (some ⟨c, 0, none⟩)) := (hb2.cell (p := ⟨b, 0, none⟩) l1).trans c1; have d2 : w2.cell? ⟨b, 1, none⟩ = some (.string sec) := (hb2.cell (p := ⟨b, 1, none⟩) l1).trans d1; have l2 : b < w2.heap.size := Nat.lt_of_lt_of_le l1 hb2.size)
    | (go_at_call 12; (with_reducible refine (S.out _ hR2).mono ?_); rintro e w3 ⟨rfl, hb3⟩; have c3 : w3.cell? ⟨b, 0, none⟩ = some (.pointer (some ⟨c, 0, none⟩)) := (hb3.cell (p := ⟨b, 0, none⟩) l2).trans c2; have d3 : w3.cell? ⟨b, 1, none⟩ = some (.string sec) := (hb3.cell (p := ⟨b, 1, none⟩) l2).trans d2))
  go_wp2
  go_ret
  exact ⟨rfl, ((drewBelow hb1).trans (hb2.mono s1)).trans (hb3.mono (Nat.le_trans s1 hb2.size))⟩
end Go.Proofs.YtdoakaadpfheaaaDoor
