/- Texts of this proof, one behind the other. -/
import Derived.Deep.RegionWith
import Derived.Deep.DeepCutAuto
import Derived.Test.YtkbaalenbpgheaaGreatDoorPart12
/- What the program's vault keeps of a subject. -/
namespace Go.Proofs.YtkbaalenbpgheaaGreatDoor
open Go.RowKit Go.Maps
attribute [local go_sem ↓] Go.wp_at_zero Go.wp_at_succ
/-- What a call that keeps something of a subject leaves. -/
def Keeps (w w' : World) (b : Nat) (mo : Option Nat) (sec : ByteArray) (n : Nat) (σ : Kept) : Prop :=
  ∃ m, ProgV w' b (some m) sec n σ ∧ (mo = some m ∨ (mo = none ∧ w.heap.size ≤ m)) ∧ Stirred (b :: mo.toList) w w'
theorem nilMapV (w : World) : (binOp .eql 99 (.map none) (.map none)).run Tryz.prog w = .ok (.bool true) w := by kernel_rfl
theorem aMapV (m : Nat) (w : World) : (binOp .eql 99 (.map (some m)) (.map none)).run Tryz.prog w = .ok (.bool false) w := by kernel_rfl
set_option maxRecDepth 100000 in
set_option maxHeartbeats 1000000 in
theorem keep_any (b : Nat) (mo : Option Nat) (sec s k : ByteArray) (a n : Nat) (σ σ' : Kept) (w : World) (hs : s.size ≤ 60) (hn : n < 1000) (hV : ProgV w b mo sec n σ)
    (hσ : ∀ D, HeldIs (keyL sec) D σ → HeldIs (keyL sec) (D.put (.string s.data.toList) (holdD a k.data.toList)) σ') :
    Calls Tryz.prog 138 #[.pointer (some ⟨b, 0, none⟩), .string s, .agg #[.int .i64 (a : Int), .string k]] w fun e w' => e = .returned (.tuple #[]) ∧ Keeps w w' b mo sec (n + 1) σ' := by
  have hkey := key9 s hs
  have c1 : w.cell? ⟨b, 1, none⟩ = some (.map mo) := hV.row.cell 1
  have f1 : w.frozen? ⟨b, 1, none⟩ = false := hV.row.free 1
  have hb := hV.row.lt
  cases mo with
  | none =>
    have hmm := @run_makeMap Tryz.prog
    have hq := nilMapV
    have hown : (((w.setCell ⟨b, 1, none⟩ (.map (some (w.heap.size + 1)))).alloc (.cells #[.int .i64 (a : Int), .string k] 103)).alloc (.map #[] 0)).ownsMap Tryz.prog 9 holdElem (w.heap.size + 1) 0 (.map []) := by
      have h := World.ownsMap_made ((w.setCell ⟨b, 1, none⟩ (.map (some (w.heap.size + 1)))).alloc (.cells #[.int .i64 (a : Int), .string k] 103)) Tryz.prog 9 holdElem
      have e : ((w.setCell ⟨b, 1, none⟩ (.map (some (w.heap.size + 1)))).alloc (.cells #[.int .i64 (a : Int), .string k] 103)).heap.size = w.heap.size + 1 := by simp [World.setCell]
      rw [e] at h
      exact h
    obtain ⟨w1, hrun, ho1, ht1⟩ := hown.drew.store law9 Tryz.underlying99 (by unfold maxLen; omega) hkey (holdElem_mk (a : Int) k)
    have Hσ := hide (hσ _ ((hV.none rfl) ▸ heldIs0 (keyL sec)))
    have HR := hide (hV.row.set 1 (.map (some (w.heap.size + 1))))
    have HO := hide ho1
    have HT := hide ht1
    clear hown ho1 ht1 hσ hV
    go_enter Tryz.func138, Tryz.ntmps138
    go_wp2
    go_region
    go_end0
    have t0 : Stirred [b] w (((w.setCell ⟨b, 1, none⟩ (.map (some (w.heap.size + 1)))).alloc (.cells #[.int .i64 (a : Int), .string k] 103)).alloc (.map #[] 0)).drew :=
      (Stirred.setCell w ⟨b, 1, none⟩ _).then_below (((Below.refl _ _).alloc (Nat.le_refl _) _).alloc (by simp) _).drew
    have t1 := Stirred.of_turned HT.out
    exact ⟨rfl, w.heap.size + 1, ⟨(((HR.out.alloc _).alloc _).drew).turned t1 (by simp; omega), (fun e => by cases e), (fun m e => by cases e; exact ⟨_, HO.out.mono (by omega), Hσ.out⟩)⟩,
      .inr ⟨rfl, by omega⟩, t0.andThen t1 (fun j hj => .inr (by simp at hj; omega))⟩
  | some m =>
    obtain ⟨D, ho, hi⟩ := hV.held m rfl
    have hq := aMapV m
    obtain ⟨w1, hrun, ho1, ht1⟩ := (ho.alloc (.cells #[.int .i64 (a : Int), .string k] 103)).drew.store law9 Tryz.underlying99 (by unfold maxLen; omega) hkey (holdElem_mk (a : Int) k)
    have Hσ := hide (hσ _ hi)
    have HR := hide hV.row
    have HO := hide ho1
    have HT := hide ht1
    have HA := hide (hV.apart rfl)
    clear ho ho1 ht1 hσ hV hi
    go_enter Tryz.func138, Tryz.ntmps138
    go_wp2
    go_region
    go_end0
    have t0 : Stirred (b :: (some m).toList) w (w.alloc (.cells #[.int .i64 (a : Int), .string k] 103)).drew := Stirred.of_below ((Below.refl _ w).alloc (Nat.le_refl _) _).drew _
    have t1 := Stirred.of_turned HT.out
    exact ⟨rfl, m, ⟨(HR.out.alloc _).drew.turned t1 (by simp; exact fun e => HA.out e.symm), (fun e => by cases e), (fun m' e => by cases e; exact ⟨_, HO.out, Hσ.out⟩)⟩,
      .inl rfl, t0.andThen t1 (fun j hj => .inl (by simp at hj; simp [hj]))⟩
end Go.Proofs.YtkbaalenbpgheaaGreatDoor

/- A subject's key of a number: the program's own way to it, and the document's. -/
namespace Go.Proofs.YtkbaalenbpgheaaGreatDoor
open Go.RowKit Go.Maps
attribute [local go_sem ↓] Go.wp_at_zero Go.wp_at_succ
/-- Three texts that lie side by side are the parts of a mark. -/
theorem parts3 {w : World} (b : Nat) (p q r : ByteArray) (hb : b < w.heap.size) (h0 : w.cell? ⟨b, 0, none⟩ = some (.string p)) (h1 : w.cell? ⟨b, 1, none⟩ = some (.string q)) (h2 : w.cell? ⟨b, 2, none⟩ = some (.string r)) :
    Parts w (.slice (some ⟨b, 0, none⟩) 3 3) [p, q, r] := by
  refine ⟨_, 3, rfl, .inr ⟨b, 0, rfl, hb, fun k hk => ?_⟩⟩
  have hk' : k < 3 := hk
  match k, hk' with
  | 0, _ => exact h0
  | 1, _ => exact h1
  | 2, _ => exact h2
def num3 (n : Nat) : ByteArray := ⟨(num8 n).toArray⟩
theorem num3_size (n : Nat) : (num3 n).size = 8 := num8_len n
theorem mark_three (sec s q : ByteArray) (w : World) (hp : sec.size ≤ 60) (hs : s.size ≤ 60) (hq : q.size = 8) (hK : TabK w) :
    Calls Tryz.prog 93 #[.int .u8 118, .slice (some ⟨w.heap.size, 0, none⟩) 3 3] (w.alloc (.cells #[.string sec, .string s, .string q] 9)) fun e w' => e = .returned (.string (markB 118 [sec, s, q])) ∧ Below w.heap.size w w' :=
  (mark_any 118 _ [sec, s, q] (w.alloc (.cells #[.string sec, .string s, .string q] 9)) (parts3 w.heap.size sec s q (by simp) (by simp) (by simp) (by simp)) (by simp) (by simp; omega) (hK.below ((Below.refl _ w).alloc (Nat.le_refl _) _) hK.lt)).mono
    fun _ _ ⟨he, hb⟩ => ⟨he, ((Below.refl _ w).alloc (Nat.le_refl _) _).trans (hb.mono (by simp))⟩
theorem num_n (n : Nat) (h : n < 1000000) (w : World) : Calls Tryz.prog 94 #[.int .i64 (n : Int)] w fun e w' => e = .returned (.string (num3 n)) ∧ Below w.heap.size w w' := by
  have q := num_any (n : Int) w
  rw [u64of_nat n (by omega)] at q
  exact q
theorem sum_key (sec s : ByteArray) (n : Nat) (w : World) (hK : TabK w) : Calls Tryz.prog 132 #[.string (markB 118 [sec, s, num3 n])] w fun e w' => e = .returned (.string (keyB sec s n)) ∧ Below w.heap.size w w' :=
  sum_any _ (by rw [markB_size]; omega) w hK
theorem drewBelow {w w' : World} (h : Below w.drew.heap.size w.drew w') : Below w.heap.size w w' := ⟨h.os, h.tape, h.output, h.size, h.block⟩
set_option maxRecDepth 100000 in
set_option maxHeartbeats 1000000 in
theorem derive_any (b n : Nat) (sec s : ByteArray) (mo : Option Nat) (w : World) (hr : HasR w b 101 #[.string sec, .map mo]) (hp : sec.size ≤ 60) (hs : s.size ≤ 60) (hn : n < 1000000) (hK : TabK w) :
    Calls Tryz.prog 139 #[.pointer (some ⟨b, 0, none⟩), .string s, .int .i64 (n : Int)] w fun e w' => e = .returned (.string (keyB sec s n)) ∧ Below w.heap.size w w' := by
  have c0 : w.cell? ⟨b, 0, none⟩ = some (.string sec) := hr.cell 0
  have hbl := hr.lt
  have N := hide (fun wx => num_n n hn wx)
  have M := hide (fun wx hKx => mark_three sec s (num3 n) wx hp hs (num3_size n) hKx)
  have S := hide (fun wx hKx => sum_key sec s n wx hKx)
  have hKd : TabK w.drew := hK.below (Below.refl _ w).drew hK.lt
  generalize keyB sec s n = k at S
  generalize markB 118 [sec, s, num3 n] = mk at S M
  generalize num3 n = q at N M
  go_enter Tryz.func139, Tryz.ntmps139
  go_wp2
  go_region_with (first
    | (go_at_call 94; (with_reducible refine (N.out _).mono ?_); rintro e w1 ⟨rfl, hb1⟩; have hK1 := hKd.below hb1 hKd.lt; have c1 : w1.cell? ⟨b, 0, none⟩ = some (.string sec) := (hb1.cell (p := ⟨b, 0, none⟩) hbl).trans c0)
    | (go_at_call 93; (with_reducible refine (M.out _ hK1).mono ?_); rintro e w2 ⟨rfl, hb2⟩; have hK2 := hK1.below hb2 hK1.lt)
    | (go_at_call 132; (with_reducible refine (S.out _ hK2).mono ?_); rintro e w3 ⟨rfl, hb3⟩))
  all_goals
    go_wp2
    go_ret
    have s1 := (drewBelow hb1).size
    exact ⟨rfl, ((drewBelow hb1).trans (hb2.mono s1)).trans (hb3.mono (Nat.le_trans s1 hb2.size))⟩
end Go.Proofs.YtkbaalenbpgheaaGreatDoor

/- The program's own Make: a subject's key now, and which one it is. -/
namespace Go.Proofs.YtkbaalenbpgheaaGreatDoor
open Go.RowKit Go.Maps
attribute [local go_sem ↓] Go.wp_at_zero Go.wp_at_succ
set_option maxRecDepth 100000 in
set_option maxHeartbeats 1000000 in
theorem make_noName (b : Nat) (s : ByteArray) (w : World) (hs : nameB s.data.toList = false) :
    Calls Tryz.prog 100 #[.pointer (some ⟨b, 0, none⟩), .string s] w fun e w' => e = .returned (.tuple #[.int .i64 0, .string ByteArray.empty, .iface 56 (.int .i64 5)]) ∧ w' = w := by
  have Q := hide (fun wx => name_any s wx)
  rw [hs] at Q
  go_enter Tryz.func100, Tryz.ntmps100
  go_wp2_with (go_at_call 102; (with_reducible refine (Q.out _).mono ?_); rintro e w1 ⟨rfl, rfl⟩)
  go_ret3
  exact ⟨rfl, rfl⟩
theorem text_full {k : ByteArray} (h : k.size = 32) : k.toList.isEmpty = false := by
  rw [ByteArray.toList_eq, List.isEmpty_eq_false_iff]
  intro e
  have h1 : k.data.toList.length = 32 := by rw [Array.length_toList]; exact h
  rw [e] at h1
  simp at h1
set_option maxRecDepth 100000 in
set_option maxHeartbeats 1000000 in
theorem make_held (b : Nat) (mo : Option Nat) (sec s : ByteArray) (n : Nat) (σ : Kept) (w : World) (hs : s.size ≤ 60) (hN : nameB s.data.toList = true) (hV : ProgV w b mo sec n σ) (hh : (σ s.data.toList).2 = true) :
    Calls Tryz.prog 100 #[.pointer (some ⟨b, 0, none⟩), .string s] w fun e w' => e = .returned (.tuple #[.int .i64 ((σ s.data.toList).1 : Int), .string (keyB sec s (σ s.data.toList).1), .nilIface]) ∧ Below w.heap.size w w' := by
  have Q := hide (fun wx => name_any s wx)
  rw [hN] at Q
  have O := hide (of_any b mo sec s n σ w hs hV)
  rw [lastB_held hh] at O
  have d := text_full (keyB_size sec s (σ s.data.toList).1)
  generalize keyB sec s (σ s.data.toList).1 = k at O d
  generalize (σ s.data.toList).1 = a at O
  go_enter Tryz.func100, Tryz.ntmps100
  go_wp2_with (first
    | (go_at_call 102; (with_reducible refine (Q.out _).mono ?_); rintro e w1 ⟨rfl, rfl⟩)
    | (go_at_call 121; (with_reducible refine O.out.mono ?_); rintro e w2 ⟨rfl, hb2⟩))
  go_region
  go_wp2
  go_ret3
  exact ⟨rfl, (hb2.alloc hb2.size _).drew⟩
theorem wrap_one (a : Nat) (h : a < 1000) : IntKind.i64.wrap ((a : Int) + 1) = ((a + 1 : Nat) : Int) := by
  rw [IntKind.wrap_i64]
  omega
theorem Stirred.drew {L : List Nat} {a b : World} (h : Stirred L a b) : Stirred L a b.drew := ⟨h.os, h.tape, h.output, h.size, h.block⟩
theorem ProgV.drew {w : World} {b : Nat} {mo : Option Nat} {sec : ByteArray} {n : Nat} {σ : Kept} (h : ProgV w b mo sec n σ) : ProgV w.drew b mo sec n σ := h.turned (Stirred.refl [] w).drew (by simp) (by simp)
theorem Keeps.drew {w w' : World} {b : Nat} {mo : Option Nat} {sec : ByteArray} {n : Nat} {σ : Kept} (h : Keeps w w' b mo sec n σ) : Keeps w w'.drew b mo sec n σ := by
  obtain ⟨m, h1, h2, h3⟩ := h
  exact ⟨m, h1.drew, h2, h3.drew⟩
theorem Keeps.behind {a w w' : World} {b : Nat} {mo : Option Nat} {sec : ByteArray} {n : Nat} {σ : Kept} {L : List Nat} (h : Keeps w w' b mo sec n σ) (t : Stirred L a w) (hL : ∀ j ∈ L, a.heap.size ≤ j) : Keeps a w' b mo sec n σ := by
  obtain ⟨m, h1, h2, h3⟩ := h
  have t0 : Stirred (b :: mo.toList) a w := ⟨t.os, t.tape, t.output, t.size, fun k hk _ => t.block k hk (fun hm => by have := hL k hm; omega)⟩
  refine ⟨m, h1, ?_, t0.andThen h3 (fun j hj => .inl hj)⟩
  rcases h2 with h2 | ⟨h2, h4⟩
  · exact .inl h2
  · exact .inr ⟨h2, Nat.le_trans t.size h4⟩
theorem ProgV.more {w : World} {b : Nat} {mo : Option Nat} {sec : ByteArray} {n : Nat} {σ : Kept} (h : ProgV w b mo sec n σ) : ProgV w b mo sec (n + 1) σ :=
  ⟨h.row, h.none, fun m e => by obtain ⟨D, o, i⟩ := h.held m e; exact ⟨D, o.mono (by omega), i⟩⟩
set_option maxRecDepth 100000 in
set_option maxHeartbeats 1000000 in
theorem make_new (b : Nat) (mo : Option Nat) (sec s : ByteArray) (n : Nat) (σ : Kept) (w : World) (hp : sec.size ≤ 60) (hs : s.size ≤ 60) (hn : n < 1000) (hσ : (σ s.data.toList).1 ≤ n) (hN : nameB s.data.toList = true) (hK : TabK w) (hV : ProgV w b mo sec n σ) (hh : (σ s.data.toList).2 = false) :
    Calls Tryz.prog 100 #[.pointer (some ⟨b, 0, none⟩), .string s] w fun e w' => e = .returned (.tuple #[.int .i64 (((σ s.data.toList).1 + 1 : Nat) : Int), .string (keyB sec s ((σ s.data.toList).1 + 1)), .nilIface]) ∧ Keeps w w' b mo sec (n + 1) (made σ s.data.toList) := by
  have Q := hide (fun wx => name_any s wx)
  rw [hN] at Q
  have O := hide (of_any b mo sec s n σ w hs hV)
  rw [lastB_none hh] at O
  have hmk : ∀ D, HeldIs (keyL sec) D σ → HeldIs (keyL sec) (D.put (.string s.data.toList) (holdD ((σ s.data.toList).1 + 1) (keyB sec s ((σ s.data.toList).1 + 1)).data.toList)) (made σ s.data.toList) := fun D h => by
    have h1 := h.made hh
    unfold keyL at h1
    rw [bytes_back s] at h1
    exact h1
  have HMK := hide hmk
  clear hmk
  generalize made σ s.data.toList = σ' at HMK
  generalize (σ s.data.toList).1 = a at O HMK hσ
  have DV := hide (fun wx (h : HasR wx b 101 #[.string sec, .map mo]) hKx => derive_any b (a + 1) sec s mo wx h hp hs (by omega) hKx)
  have KP := hide (fun wx hVx => keep_any b mo sec s (keyB sec s (a + 1)) (a + 1) n σ σ' wx hs hn hVx HMK.out)
  have hw1 := wrap_one a (by omega)
  have hw2 : ((a + 1 : Nat) : Int) = (a : Int) + 1 := by omega
  rw [← hw1] at DV
  rw [hw2] at KP ⊢
  clear hw1 hw2 HMK
  generalize keyB sec s (a + 1) = k at DV KP
  have hbl := hV.row.lt
  have HV := hide hV
  clear hV
  go_enter Tryz.func100, Tryz.ntmps100
  go_wp2_with (first
    | (go_at_call 102; (with_reducible refine (Q.out _).mono ?_); rintro e w1 ⟨rfl, rfl⟩)
    | (go_at_call 121; (with_reducible refine O.out.mono ?_); rintro e w2 ⟨rfl, hb2⟩))
  obtain ⟨H, hH⟩ : ∃ H, H = w2.heap.size := ⟨_, rfl⟩
  have hbH : b < H := by rw [hH]; exact Nat.lt_of_lt_of_le hbl hb2.size
  have hX : HasR (w2.alloc (.cells #[.int .i64 (a : Int), .string ByteArray.empty] 103)).drew w2.heap.size 103 #[.int .i64 (a : Int), .string ByteArray.empty] := (HasR.new w2 103 _).drew
  have hbX : Below w1.heap.size w1 (w2.alloc (.cells #[.int .i64 (a : Int), .string ByteArray.empty] 103)).drew := (hb2.alloc hb2.size _).drew
  have hKX : TabK (w2.alloc (.cells #[.int .i64 (a : Int), .string ByteArray.empty] 103)).drew := hK.below hbX hK.lt
  have hVX := HV.out.below hbX
  have HVX := hide hVX
  have HX := hide hX
  have hR := hVX.row
  have HR := hide hR
  have HV0 := hide HV.out
  clear hVX hX hR HV
  have hnot : w2.heap.size ∉ b :: mo.toList := by
    intro hm
    rcases List.mem_cons.1 hm with h | h
    · omega
    · cases mo with
      | none => simp at h
      | some m =>
        obtain ⟨D, o, _⟩ := HV0.out.held m rfl
        have h1 := o.lt
        have h2 := hb2.size
        simp at h
        omega
  go_region_with (first
    | (go_at_call 139; (with_reducible refine (DV.out _ HR.out hKX).mono ?_); rintro e w3 ⟨rfl, hb3⟩; have hX3 := HX.out.below hb3 HX.out.lt; have c30 : w3.cell? ⟨w2.heap.size, 0, none⟩ = some (.int .i64 (a : Int)) := hX3.cell 0; have c31 : w3.cell? ⟨w2.heap.size, 1, none⟩ = some (.string ByteArray.empty) := hX3.cell 1; have f30 : w3.frozen? ⟨w2.heap.size, 0, none⟩ = false := hX3.free 0; have f31 : w3.frozen? ⟨w2.heap.size, 1, none⟩ = false := hX3.free 1; have HX3 := hide hX3; clear hX3))
  all_goals
    have t4 : Stirred [w2.heap.size] w3 ((w3.setCell ⟨w2.heap.size, 0, none⟩ (.int .i64 ((a : Int) + 1))).setCell ⟨w2.heap.size, 1, none⟩ (.string k)) :=
      (Stirred.setCell w3 ⟨w2.heap.size, 0, none⟩ _).andThen (Stirred.setCell _ ⟨w2.heap.size, 1, none⟩ _) (fun j hj => .inl hj)
    have hX4 : HasR ((w3.setCell ⟨w2.heap.size, 0, none⟩ (.int .i64 ((a : Int) + 1))).setCell ⟨w2.heap.size, 1, none⟩ (.string k)) w2.heap.size 103 #[.int .i64 ((a : Int) + 1), .string k] := (HX3.out.set 0 _).set 1 _
    have hb13 : Below w1.heap.size w1 w3 := hbX.trans (hb3.mono hbX.size)
    have hV3 := HVX.out.below hb3
    have hV4 := hV3.turned t4 (by simp; omega) (fun m e => by
      obtain ⟨D, o, _⟩ := HV0.out.held m e
      have := o.lt
      have := hb2.size
      simp
      omega)
    have T4 := hide t4
    have X4 := hide hX4
    have V4 := hide hV4
    clear t4 hX4 hV4 hV3
    go_wp2_with (go_at_call 138; (with_reducible refine (KP.out _ V4.out).mono ?_); rintro e w5 ⟨rfl, hk5⟩)
    have c50 : w5.cell? ⟨w2.heap.size, 0, none⟩ = some (.int .i64 ((a : Int) + 1)) := by
      obtain ⟨m, _, _, ht5⟩ := hk5
      rw [ht5.cell (p := ⟨w2.heap.size, 0, none⟩) X4.out.lt hnot]
      exact X4.out.cell 0
    have c51 : w5.cell? ⟨w2.heap.size, 1, none⟩ = some (.string k) := by
      obtain ⟨m, _, _, ht5⟩ := hk5
      rw [ht5.cell (p := ⟨w2.heap.size, 1, none⟩) X4.out.lt hnot]
      exact X4.out.cell 1
    have K5 := hide hk5
    clear hk5
    go_region
    go_wp2
    go_ret3
    exact ⟨rfl, (K5.out.behind ((Stirred.of_below hb13 [w2.heap.size]).andThen T4.out (fun j hj => .inl hj)) (fun j hj => by simp at hj; rw [hj]; exact hb2.size)).drew⟩
theorem made_at (σ : Kept) (l : List UInt8) (h : (σ l).2 = false) : (made σ l l).1 = (σ l).1 + 1 := by
  unfold made
  rw [if_pos rfl, h]
  rfl
/-- Make of a name, whatever the vault has of it. -/
theorem make_any (b : Nat) (mo : Option Nat) (sec s : ByteArray) (n : Nat) (σ : Kept) (w : World) (hp : sec.size ≤ 60) (hs : s.size ≤ 60) (hn : n < 1000) (hσ : (σ s.data.toList).1 ≤ n) (hN : nameB s.data.toList = true) (hK : TabK w) (hV : ProgV w b mo sec n σ) :
    Calls Tryz.prog 100 #[.pointer (some ⟨b, 0, none⟩), .string s] w fun e w' => e = .returned (.tuple #[.int .i64 ((made σ s.data.toList s.data.toList).1 : Int), .string (keyB sec s (made σ s.data.toList s.data.toList).1), .nilIface]) ∧ Keeps w w' b mo sec (n + 1) (made σ s.data.toList) := by
  cases hh : (σ s.data.toList).2
  · rw [made_at σ _ hh]
    exact make_new b mo sec s n σ w hp hs hn hσ hN hK hV hh
  · rw [made_held hh]
    refine (make_held b mo sec s n σ w hs hN hV hh).mono fun e w' ⟨he, hb⟩ => ⟨he, ?_⟩
    cases mo with
    | none =>
      have h0 := hV.none rfl
      rw [h0] at hh
      cases hh
    | some m => exact ⟨m, (hV.below hb).more, .inl rfl, Stirred.of_below hb _⟩
end Go.Proofs.YtkbaalenbpgheaaGreatDoor
