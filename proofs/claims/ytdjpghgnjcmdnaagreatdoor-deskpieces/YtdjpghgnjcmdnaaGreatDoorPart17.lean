/- Texts of this proof, one behind the other. -/
import Derived.Deep.RegionWith
import Derived.Deep.DeepCutAuto
import Derived.Deep.RegionHeld3
import Derived.Deep.DrawnRows
import Derived.Test.YtdjpghgnjcmdnaaGreatDoorPart16
/- A subject's key of a number: the program's own way to it, and the document's. -/
namespace Go.Proofs.YtdjpghgnjcmdnaaGreatDoor
open Go.RowKit Go.Maps
attribute [local go_sem ↓] Go.wp_at_zero Go.wp_at_succ
/-- Three texts that lie side by side are the parts of a mark. -/
theorem parts3 {w : World} (b : Nat) (p q r : ByteArray) (hb : b < w.heap.size) (h0 : w.cell? ⟨b, 0, none⟩ = some (.string p)) (h1 : w.cell? ⟨b, 1, none⟩ = some (.string q)) (h2 : w.cell? ⟨b, 2, none⟩ = some (.string r)) :
    Parts w (.slice (some ⟨b, 0, none⟩) 3 3) [p, q, r] := by
  refine ⟨_, 3, rfl, .inr ⟨b, 0, rfl, hb, fun k hk => ?_⟩⟩
  have hk' : k < 3 := hk
  match k, hk' with
  | 0, _ => exact h0
  | 1, _ => exact h1
  | 2, _ => exact h2
def num3 (n : Nat) : ByteArray := ⟨(num8 n).toArray⟩
theorem num3_size (n : Nat) : (num3 n).size = 8 := num8_len n
theorem mark_three (sec s q : ByteArray) (w : World) (hp : sec.size ≤ 60) (hs : s.size ≤ 60) (hq : q.size = 8) (hK : TabK w) :
    Calls Tryz.prog 30 #[.int .u8 118, .slice (some ⟨w.heap.size, 0, none⟩) 3 3] (w.alloc (.cells #[.string sec, .string s, .string q] 9)) fun e w' => e = .returned (.string (markB 118 [sec, s, q])) ∧ Below w.heap.size w w' :=
  (mark_any 118 _ [sec, s, q] (w.alloc (.cells #[.string sec, .string s, .string q] 9)) (parts3 w.heap.size sec s q (by simp) (by simp) (by simp) (by simp)) (by simp) (by simp; omega) (hK.below ((Below.refl _ w).alloc (Nat.le_refl _) _) hK.lt)).mono
    fun _ _ ⟨he, hb⟩ => ⟨he, ((Below.refl _ w).alloc (Nat.le_refl _) _).trans (hb.mono (by simp))⟩
theorem num_n (n : Nat) (h : n < 1000000) (w : World) : Calls Tryz.prog 91 #[.int .i64 (n : Int)] w fun e w' => e = .returned (.string (num3 n)) ∧ Below w.heap.size w w' := by
  have q := num_any (n : Int) w
  rw [u64of_nat n (by omega)] at q
  exact q
theorem sum_key (sec s : ByteArray) (n : Nat) (w : World) (hK : TabK w) : Calls Tryz.prog 63 #[.string (markB 118 [sec, s, num3 n])] w fun e w' => e = .returned (.string (keyB sec s n)) ∧ Below w.heap.size w w' :=
  sum_any _ (by rw [markB_size]; omega) w hK
theorem drewBelow {w w' : World} (h : Below w.drew.heap.size w.drew w') : Below w.heap.size w w' := ⟨h.os, h.tape, h.output, h.size, h.block⟩
set_option maxRecDepth 100000 in
set_option maxHeartbeats 1000000 in
theorem derive_any (b n : Nat) (sec s : ByteArray) (mo : Option Nat) (w : World) (hr : HasR w b 143 #[.string sec, .map mo]) (hp : sec.size ≤ 60) (hs : s.size ≤ 60) (hn : n < 1000000) (hK : TabK w) :
    Calls Tryz.prog 202 #[.pointer (some ⟨b, 0, none⟩), .string s, .int .i64 (n : Int)] w fun e w' => e = .returned (.string (keyB sec s n)) ∧ Below w.heap.size w w' := by
  have c0 : w.cell? ⟨b, 0, none⟩ = some (.string sec) := hr.cell 0
  have hbl := hr.lt
  have N := hide (fun wx => num_n n hn wx)
  have M := hide (fun wx hKx => mark_three sec s (num3 n) wx hp hs (num3_size n) hKx)
  have S := hide (fun wx hKx => sum_key sec s n wx hKx)
  have hKd : TabK w.drew := hK.below (Below.refl _ w).drew hK.lt
  generalize keyB sec s n = k at S
  generalize markB 118 [sec, s, num3 n] = mk at S M
  generalize num3 n = q at N M
  go_enter Tryz.func202, Tryz.ntmps202
  go_wp2
  go_region_with (first
    | (go_at_call 91; (with_reducible refine (N.out _).mono ?_); rintro e w1 ⟨rfl, hb1⟩; have hK1 := hKd.below hb1 hKd.lt; have c1 : w1.cell? ⟨b, 0, none⟩ = some (.string sec) := (hb1.cell (p := ⟨b, 0, none⟩) hbl).trans c0)
    | (go_at_call 30; (with_reducible refine (M.out _ hK1).mono ?_); rintro e w2 ⟨rfl, hb2⟩; have hK2 := hK1.below hb2 hK1.lt)
    | (go_at_call 63; (with_reducible refine (S.out _ hK2).mono ?_); rintro e w3 ⟨rfl, hb3⟩))
  all_goals
    go_wp2
    go_ret
    have s1 := (drewBelow hb1).size
    exact ⟨rfl, ((drewBelow hb1).trans (hb2.mono s1)).trans (hb3.mono (Nat.le_trans s1 hb2.size))⟩
end Go.Proofs.YtdjpghgnjcmdnaaGreatDoor

/- The program's own Make: a subject's key now, and which one it is. -/
namespace Go.Proofs.YtdjpghgnjcmdnaaGreatDoor
open Go.RowKit Go.Maps
attribute [local go_sem ↓] Go.wp_at_zero Go.wp_at_succ
set_option maxRecDepth 100000 in
set_option maxHeartbeats 1000000 in
theorem make_noName (b : Nat) (s : ByteArray) (w : World) (hs : nameB s.data.toList = false) :
    Calls Tryz.prog 152 #[.pointer (some ⟨b, 0, none⟩), .string s] w fun e w' => e = .returned (.tuple #[.int .i64 0, .string ByteArray.empty, .iface 25 (.int .i64 5)]) ∧ w' = w := by
  have Q := hide (fun wx => name_any s wx)
  rw [hs] at Q
  go_enter Tryz.func152, Tryz.ntmps152
  go_wp2_with (go_at_call 131; (with_reducible refine (Q.out _).mono ?_); rintro e w1 ⟨rfl, rfl⟩)
  go_ret3
  exact ⟨rfl, rfl⟩
theorem text_full {k : ByteArray} (h : k.size = 32) : k.toList.isEmpty = false := by
  rw [ByteArray.toList_eq, List.isEmpty_eq_false_iff]
  intro e
  have h1 : k.data.toList.length = 32 := by rw [Array.length_toList]; exact h
  rw [e] at h1
  simp at h1
set_option maxRecDepth 100000 in
set_option maxHeartbeats 1000000 in
theorem make_held (b : Nat) (mo : Option Nat) (sec s : ByteArray) (n : Nat) (σ : Kept) (w : World) (hs : s.size ≤ 60) (hN : nameB s.data.toList = true) (hV : ProgV w b mo sec n σ) (hh : (σ s.data.toList).2 = true) :
    Calls Tryz.prog 152 #[.pointer (some ⟨b, 0, none⟩), .string s] w fun e w' => e = .returned (.tuple #[.int .i64 ((σ s.data.toList).1 : Int), .string (keyB sec s (σ s.data.toList).1), .nilIface]) ∧ Below w.heap.size w w' := by
  have Q := hide (fun wx => name_any s wx)
  rw [hN] at Q
  have O := hide (of_any b mo sec s n σ w hs hV)
  rw [lastB_held hh] at O
  have d := text_full (keyB_size sec s (σ s.data.toList).1)
  generalize keyB sec s (σ s.data.toList).1 = k at O d
  generalize (σ s.data.toList).1 = a at O
  go_enter Tryz.func152, Tryz.ntmps152
  go_wp2_with (first
    | (go_at_call 131; (with_reducible refine (Q.out _).mono ?_); rintro e w1 ⟨rfl, rfl⟩)
    | (go_at_call 200; (with_reducible refine O.out.mono ?_); rintro e w2 ⟨rfl, hb2⟩))
  go_region
  go_wp2
  go_ret3
  exact ⟨rfl, (hb2.alloc hb2.size _).drew⟩
theorem wrap_one (a : Nat) (h : a < 1000) : IntKind.i64.wrap ((a : Int) + 1) = ((a + 1 : Nat) : Int) := by
  rw [IntKind.wrap_i64]
  omega
theorem Stirred.drew {L : List Nat} {a b : World} (h : Stirred L a b) : Stirred L a b.drew := ⟨h.os, h.tape, h.output, h.size, h.block⟩
theorem ProgV.drew {w : World} {b : Nat} {mo : Option Nat} {sec : ByteArray} {n : Nat} {σ : Kept} (h : ProgV w b mo sec n σ) : ProgV w.drew b mo sec n σ := h.turned (Stirred.refl [] w).drew (by simp) (by simp)
theorem Keeps.drew {w w' : World} {b : Nat} {mo : Option Nat} {sec : ByteArray} {n : Nat} {σ : Kept} (h : Keeps w w' b mo sec n σ) : Keeps w w'.drew b mo sec n σ := by
  obtain ⟨m, h1, h2, h3⟩ := h
  exact ⟨m, h1.drew, h2, h3.drew⟩
theorem Keeps.behind {a w w' : World} {b : Nat} {mo : Option Nat} {sec : ByteArray} {n : Nat} {σ : Kept} {L : List Nat} (h : Keeps w w' b mo sec n σ) (t : Stirred L a w) (hL : ∀ j ∈ L, a.heap.size ≤ j) : Keeps a w' b mo sec n σ := by
  obtain ⟨m, h1, h2, h3⟩ := h
  have t0 : Stirred (b :: mo.toList) a w := ⟨t.os, t.tape, t.output, t.size, fun k hk _ => t.block k hk (fun hm => by have := hL k hm; omega)⟩
  refine ⟨m, h1, ?_, t0.andThen h3 (fun j hj => .inl hj)⟩
  rcases h2 with h2 | ⟨h2, h4⟩
  · exact .inl h2
  · exact .inr ⟨h2, Nat.le_trans t.size h4⟩
theorem ProgV.more {w : World} {b : Nat} {mo : Option Nat} {sec : ByteArray} {n : Nat} {σ : Kept} (h : ProgV w b mo sec n σ) : ProgV w b mo sec (n + 1) σ :=
  ⟨h.row, h.none, fun m e => by obtain ⟨D, o, i⟩ := h.held m e; exact ⟨D, o.mono (by omega), i⟩⟩
set_option maxRecDepth 100000 in
set_option maxHeartbeats 1000000 in
theorem make_new (b : Nat) (mo : Option Nat) (sec s : ByteArray) (n : Nat) (σ : Kept) (w : World) (hp : sec.size ≤ 60) (hs : s.size ≤ 60) (hn : n < 1000) (hσ : (σ s.data.toList).1 ≤ n) (hN : nameB s.data.toList = true) (hK : TabK w) (hV : ProgV w b mo sec n σ) (hh : (σ s.data.toList).2 = false) :
    Calls Tryz.prog 152 #[.pointer (some ⟨b, 0, none⟩), .string s] w fun e w' => e = .returned (.tuple #[.int .i64 (((σ s.data.toList).1 + 1 : Nat) : Int), .string (keyB sec s ((σ s.data.toList).1 + 1)), .nilIface]) ∧ Keeps w w' b mo sec (n + 1) (made σ s.data.toList) := by
  have Q := hide (fun wx => name_any s wx)
  rw [hN] at Q
  have O := hide (of_any b mo sec s n σ w hs hV)
  rw [lastB_none hh] at O
  have hmk : ∀ D, HeldIs (keyL sec) D σ → HeldIs (keyL sec) (D.put (.string s.data.toList) (holdD ((σ s.data.toList).1 + 1) (keyB sec s ((σ s.data.toList).1 + 1)).data.toList)) (made σ s.data.toList) := fun D h => by
    have h1 := h.made hh
    unfold keyL at h1
    rw [bytes_back s] at h1
    exact h1
  have HMK := hide hmk
  clear hmk
  generalize made σ s.data.toList = σ' at HMK
  generalize (σ s.data.toList).1 = a at O HMK hσ
  have DV := hide (fun wx (h : HasR wx b 143 #[.string sec, .map mo]) hKx => derive_any b (a + 1) sec s mo wx h hp hs (by omega) hKx)
  have KP := hide (fun wx hVx => keep_any b mo sec s (keyB sec s (a + 1)) (a + 1) n σ σ' wx hs hn hVx HMK.out)
  have hw1 := wrap_one a (by omega)
  have hw2 : ((a + 1 : Nat) : Int) = (a : Int) + 1 := by omega
  rw [← hw1] at DV
  rw [hw2] at KP ⊢
  clear hw1 hw2 HMK
  generalize keyB sec s (a + 1) = k at DV KP
  have hbl := hV.row.lt
  have HV := hide hV
  clear hV
  go_enter Tryz.func152, Tryz.ntmps152
  go_wp2_with (first
    | (go_at_call 131; (with_reducible refine (Q.out _).mono ?_); rintro e w1 ⟨rfl, rfl⟩)
    | (go_at_call 200; (with_reducible refine O.out.mono ?_); rintro e w2 ⟨rfl, hb2⟩))
  obtain ⟨H, hH⟩ : ∃ H, H = w2.heap.size := ⟨_, rfl⟩
  have hbH : b < H := by rw [hH]; exact Nat.lt_of_lt_of_le hbl hb2.size
  have hX : HasR (w2.alloc (.cells #[.int .i64 (a : Int), .string ByteArray.empty] 145)).drew w2.heap.size 145 #[.int .i64 (a : Int), .string ByteArray.empty] := (HasR.new w2 145 _).drew
  have hbX : Below w1.heap.size w1 (w2.alloc (.cells #[.int .i64 (a : Int), .string ByteArray.empty] 145)).drew := (hb2.alloc hb2.size _).drew
  have hKX : TabK (w2.alloc (.cells #[.int .i64 (a : Int), .string ByteArray.empty] 145)).drew := hK.below hbX hK.lt
  have hVX := HV.out.below hbX
  have HVX := hide hVX
  have HX := hide hX
  have hR := hVX.row
  have HR := hide hR
  have HV0 := hide HV.out
  clear hVX hX hR HV
  have hnot : w2.heap.size ∉ b :: mo.toList := by
    intro hm
    rcases List.mem_cons.1 hm with h | h
    · omega
    · cases mo with
      | none => simp at h
      | some m =>
        obtain ⟨D, o, _⟩ := HV0.out.held m rfl
        have h1 := o.lt
        have h2 := hb2.size
        simp at h
        omega
  go_region_with (first
    | (go_at_call 202; (with_reducible refine (DV.out _ HR.out hKX).mono ?_); rintro e w3 ⟨rfl, hb3⟩; have hX3 := HX.out.below hb3 HX.out.lt; have c30 : w3.cell? ⟨w2.heap.size, 0, none⟩ = some (.int .i64 (a : Int)) := hX3.cell 0; have c31 : w3.cell? ⟨w2.heap.size, 1, none⟩ = some (.string ByteArray.empty) := hX3.cell 1; have f30 : w3.frozen? ⟨w2.heap.size, 0, none⟩ = false := hX3.free 0; have f31 : w3.frozen? ⟨w2.heap.size, 1, none⟩ = false := hX3.free 1; have HX3 := hide hX3; clear hX3))
  all_goals
    have t4 : Stirred [w2.heap.size] w3 ((w3.setCell ⟨w2.heap.size, 0, none⟩ (.int .i64 ((a : Int) + 1))).setCell ⟨w2.heap.size, 1, none⟩ (.string k)) :=
      (Stirred.setCell w3 ⟨w2.heap.size, 0, none⟩ _).andThen (Stirred.setCell _ ⟨w2.heap.size, 1, none⟩ _) (fun j hj => .inl hj)
    have hX4 : HasR ((w3.setCell ⟨w2.heap.size, 0, none⟩ (.int .i64 ((a : Int) + 1))).setCell ⟨w2.heap.size, 1, none⟩ (.string k)) w2.heap.size 145 #[.int .i64 ((a : Int) + 1), .string k] := (HX3.out.set 0 _).set 1 _
    have hb13 : Below w1.heap.size w1 w3 := hbX.trans (hb3.mono hbX.size)
    have hV3 := HVX.out.below hb3
    have hV4 := hV3.turned t4 (by simp; omega) (fun m e => by
      obtain ⟨D, o, _⟩ := HV0.out.held m e
      have := o.lt
      have := hb2.size
      simp
      omega)
    have T4 := hide t4
    have X4 := hide hX4
    have V4 := hide hV4
    clear t4 hX4 hV4 hV3
    go_wp2_with (go_at_call 201; (with_reducible refine (KP.out _ V4.out).mono ?_); rintro e w5 ⟨rfl, hk5⟩)
    have c50 : w5.cell? ⟨w2.heap.size, 0, none⟩ = some (.int .i64 ((a : Int) + 1)) := by
      obtain ⟨m, _, _, ht5⟩ := hk5
      rw [ht5.cell (p := ⟨w2.heap.size, 0, none⟩) X4.out.lt hnot]
      exact X4.out.cell 0
    have c51 : w5.cell? ⟨w2.heap.size, 1, none⟩ = some (.string k) := by
      obtain ⟨m, _, _, ht5⟩ := hk5
      rw [ht5.cell (p := ⟨w2.heap.size, 1, none⟩) X4.out.lt hnot]
      exact X4.out.cell 1
    have K5 := hide hk5
    clear hk5
    go_region
    go_wp2
    go_ret3
    exact ⟨rfl, (K5.out.behind ((Stirred.of_below hb13 [w2.heap.size]).andThen T4.out (fun j hj => .inl hj)) (fun j hj => by simp at hj; rw [hj]; exact hb2.size)).drew⟩
theorem made_at (σ : Kept) (l : List UInt8) (h : (σ l).2 = false) : (made σ l l).1 = (σ l).1 + 1 := by
  unfold made
  rw [if_pos rfl, h]
  rfl
/-- Make of a name, whatever the vault has of it. -/
theorem make_any (b : Nat) (mo : Option Nat) (sec s : ByteArray) (n : Nat) (σ : Kept) (w : World) (hp : sec.size ≤ 60) (hs : s.size ≤ 60) (hn : n < 1000) (hσ : (σ s.data.toList).1 ≤ n) (hN : nameB s.data.toList = true) (hK : TabK w) (hV : ProgV w b mo sec n σ) :
    Calls Tryz.prog 152 #[.pointer (some ⟨b, 0, none⟩), .string s] w fun e w' => e = .returned (.tuple #[.int .i64 ((made σ s.data.toList s.data.toList).1 : Int), .string (keyB sec s (made σ s.data.toList s.data.toList).1), .nilIface]) ∧ Keeps w w' b mo sec (n + 1) (made σ s.data.toList) := by
  cases hh : (σ s.data.toList).2
  · rw [made_at σ _ hh]
    exact make_new b mo sec s n σ w hp hs hn hσ hN hK hV hh
  · rw [made_held hh]
    refine (make_held b mo sec s n σ w hs hN hV hh).mono fun e w' ⟨he, hb⟩ => ⟨he, ?_⟩
    cases mo with
    | none =>
      have h0 := hV.none rfl
      rw [h0] at hh
      cases hh
    | some m => exact ⟨m, (hV.below hb).more, .inl rfl, Stirred.of_below hb _⟩
end Go.Proofs.YtdjpghgnjcmdnaaGreatDoor

/- A quarter round: what the program's own comes to, for every sixteen words and four places. -/
namespace Go.Proofs.YtdjpghgnjcmdnaaGreatDoor
open Go.RowKit
attribute [local go_sem] N_xor N_addm
attribute [local go_sem ↓] Go.wp_at_zero Go.wp_at_succ
/-- Nothing but block B was written, and nothing was laid. -/
structure Only (B : Nat) (w w' : World) : Prop where
  os : w'.os = w.os
  tape : w'.tape = w.tape
  output : w'.output = w.output
  size : w'.heap.size = w.heap.size
  block : ∀ k, k ≠ B → w'.heap[k]? = w.heap[k]?
theorem Only.refl (B : Nat) (w : World) : Only B w w := ⟨rfl, rfl, rfl, rfl, fun _ _ => rfl⟩
theorem Only.trans {B : Nat} {a b c : World} (h : Only B a b) (k : Only B b c) : Only B a c :=
  ⟨k.os.trans h.os, k.tape.trans h.tape, k.output.trans h.output, k.size.trans h.size, fun i hi => (k.block i hi).trans (h.block i hi)⟩
theorem Only.set (B o : Nat) (w : World) (v : Value) : Only B w (w.setCell ⟨B, o, none⟩ v) :=
  ⟨rfl, rfl, rfl, by simp, fun k hk => heap_setCell_other w ⟨B, o, none⟩ k v hk⟩
theorem Only.drew {B : Nat} {w w' : World} (h : Only B w w') : Only B w w'.drew := ⟨h.os, h.tape, h.output, h.size, h.block⟩
theorem Only.drewN {B : Nat} {w w' : World} (h : Only B w w') (n : Nat) : Only B w (w'.drewN n) := ⟨h.os, h.tape, h.output, h.size, h.block⟩
theorem Only.below {B b : Nat} {w w' : World} (h : Only B w w') (hb : b ≤ B) : Below b w w' :=
  ⟨h.os, h.tape, h.output, by rw [h.size]; exact Nat.le_refl _, fun k hk => h.block k (by omega)⟩
theorem Only.hasR {B b : Nat} {w w' : World} {t : TypeId} {cs : Array Value} (h : Only B w w') (hr : HasR w b t cs) (hb : b ≠ B) : HasR w' b t cs := by
  unfold HasR at *; rw [h.block b hb]; exact hr
set_option maxRecDepth 100000 in
set_option maxHeartbeats 1000000 in
theorem qr_any (B : Nat) (L : List (BitVec 32)) (a b c d : Nat) (ha : a < 16) (hb : b < 16) (hc : c < 16) (hd : d < 16) (hl : L.length = 16) (w : World) (h : HasW w B 194 L) :
    Calls Tryz.prog 183 #[.pointer (some ⟨B, 0, none⟩), .int .i64 a, .int .i64 b, .int .i64 c, .int .i64 d] w fun e w' => e = .returned (.tuple #[]) ∧ HasW w' B 194 (qr L a b c d) ∧ Only B w w' := by
  have ia : (a : Int) < 16 := by omega
  have ib : (b : Int) < 16 := by omega
  have ic : (c : Int) < 16 := by omega
  have id' : (d : Int) < 16 := by omega
  have o0 := Only.refl B w
  go_enter Tryz.func183, Tryz.ntmps183
  go_wp2
  go_cut [] (fun wr => HasW wr B 194 (sAdd L a b) ∧ Only B w wr)
  case first =>
    have cx := h.cell a (by omega)
    have cy := h.cell b (by omega)
    have fx := h.free a
    go_region
    all_goals (
      go_wp2
      go_meet
      case rel => exact ⟨(h.set a _).drew, o0.trans ((Only.set B a _ _).drew)⟩)
  case rest =>
    obtain ⟨h1, o1⟩ := hcut
    have l1 : (sAdd L a b).length = 16 := by rw [sAdd_len, hl]
    generalize hL1 : sAdd L a b = L1 at h1 l1
    clear h hl o0
    go_wp2
    go_cut [] (fun wr => HasW wr B 194 (sRot L1 d a 16) ∧ Only B w wr)
    case first =>
      have cx := h1.cell d (by omega)
      have cy := h1.cell a (by omega)
      have fx := h1.free d
      go_region_with (first | (go_at_call 220; refine (left_16 _ _).mono ?_; rintro e w' ⟨rfl, rfl⟩))
      all_goals (
        go_wp2
        go_meet
        case rel => exact ⟨(h1.set d _).drew, o1.trans ((Only.set B d _ _).drew)⟩)
    case rest =>
      obtain ⟨h2, o2⟩ := hcut
      have l2 : (sRot L1 d a 16).length = 16 := by rw [sRot_len, l1]
      generalize hL2 : sRot L1 d a 16 = L2 at h2 l2
      clear h1 l1 o1
      go_wp2
      go_cut [] (fun wr => HasW wr B 194 (sAdd L2 c d) ∧ Only B w wr)
      case first =>
        have cx := h2.cell c (by omega)
        have cy := h2.cell d (by omega)
        have fx := h2.free c
        go_region
        all_goals (
          go_wp2
          go_meet
          case rel => exact ⟨(h2.set c _).drew, o2.trans ((Only.set B c _ _).drew)⟩)
      case rest =>
        obtain ⟨h3, o3⟩ := hcut
        have l3 : (sAdd L2 c d).length = 16 := by rw [sAdd_len, l2]
        generalize hL3 : sAdd L2 c d = L3 at h3 l3
        clear h2 l2 o2
        go_wp2
        go_cut [] (fun wr => HasW wr B 194 (sRot L3 b c 12) ∧ Only B w wr)
        case first =>
          have cx := h3.cell b (by omega)
          have cy := h3.cell c (by omega)
          have fx := h3.free b
          go_region_with (first | (go_at_call 220; refine (left_12 _ _).mono ?_; rintro e w' ⟨rfl, rfl⟩))
          all_goals (
            go_wp2
            go_meet
            case rel => exact ⟨(h3.set b _).drew, o3.trans ((Only.set B b _ _).drew)⟩)
        case rest =>
          obtain ⟨h4, o4⟩ := hcut
          have l4 : (sRot L3 b c 12).length = 16 := by rw [sRot_len, l3]
          generalize hL4 : sRot L3 b c 12 = L4 at h4 l4
          clear h3 l3 o3
          go_wp2
          go_cut [] (fun wr => HasW wr B 194 (sAdd L4 a b) ∧ Only B w wr)
          case first =>
            have cx := h4.cell a (by omega)
            have cy := h4.cell b (by omega)
            have fx := h4.free a
            go_region
            all_goals (
              go_wp2
              go_meet
              case rel => exact ⟨(h4.set a _).drew, o4.trans ((Only.set B a _ _).drew)⟩)
          case rest =>
            obtain ⟨h5, o5⟩ := hcut
            have l5 : (sAdd L4 a b).length = 16 := by rw [sAdd_len, l4]
            generalize hL5 : sAdd L4 a b = L5 at h5 l5
            clear h4 l4 o4
            go_wp2
            go_cut [] (fun wr => HasW wr B 194 (sRot L5 d a 8) ∧ Only B w wr)
            case first =>
              have cx := h5.cell d (by omega)
              have cy := h5.cell a (by omega)
              have fx := h5.free d
              go_region_with (first | (go_at_call 220; refine (left_8 _ _).mono ?_; rintro e w' ⟨rfl, rfl⟩))
              all_goals (
                go_wp2
                go_meet
                case rel => exact ⟨(h5.set d _).drew, o5.trans ((Only.set B d _ _).drew)⟩)
            case rest =>
              obtain ⟨h6, o6⟩ := hcut
              have l6 : (sRot L5 d a 8).length = 16 := by rw [sRot_len, l5]
              generalize hL6 : sRot L5 d a 8 = L6 at h6 l6
              clear h5 l5 o5
              go_wp2
              go_cut [] (fun wr => HasW wr B 194 (sAdd L6 c d) ∧ Only B w wr)
              case first =>
                have cx := h6.cell c (by omega)
                have cy := h6.cell d (by omega)
                have fx := h6.free c
                go_region
                all_goals (
                  go_wp2
                  go_meet
                  case rel => exact ⟨(h6.set c _).drew, o6.trans ((Only.set B c _ _).drew)⟩)
              case rest =>
                obtain ⟨h7, o7⟩ := hcut
                have l7 : (sAdd L6 c d).length = 16 := by rw [sAdd_len, l6]
                generalize hL7 : sAdd L6 c d = L7 at h7 l7
                clear h6 l6 o6
                go_wp2
                have cx := h7.cell b (by omega)
                have cy := h7.cell c (by omega)
                have fx := h7.free b
                go_region_with (first | (go_at_call 220; refine (left_7 _ _).mono ?_; rintro e w' ⟨rfl, rfl⟩))
                all_goals (
                  go_wp2
                  go_end0
                  refine ⟨rfl, ?_, o7.trans ((Only.set B b _ _).drew)⟩
                  have e : qr L a b c d = sRot L7 b c 7 := by subst hL7 hL6 hL5 hL4 hL3 hL2 hL1; rfl
                  rw [e]
                  exact (h7.set b _).drew)
end Go.Proofs.YtdjpghgnjcmdnaaGreatDoor

/- A double round: what the program's own comes to, for every sixteen words. -/
namespace Go.Proofs.YtdjpghgnjcmdnaaGreatDoor
open Go.RowKit
attribute [local go_sem ↓] Go.wp_at_zero Go.wp_at_succ
theorem qr_sum (B : Nat) (L : List (BitVec 32)) (k : Nat) (hk : k < 4) (hl : L.length = 16) (w : World) (h : HasW w B 194 L) :
    Calls Tryz.prog 183 #[.pointer (some ⟨B, 0, none⟩), .int .i64 (k : Int), .int .i64 (4 + (k : Int)), .int .i64 (8 + (k : Int)), .int .i64 (12 + (k : Int))] w fun e w' => e = .returned (.tuple #[]) ∧ HasW w' B 194 (qr L k (4 + k) (8 + k) (12 + k)) ∧ Only B w w' :=
  qr_any B L k (4 + k) (8 + k) (12 + k) (by omega) (by omega) (by omega) (by omega) hl w h
theorem qr_dia (B : Nat) (L : List (BitVec 32)) (k : Nat) (hk : k < 4) (hl : L.length = 16) (w : World) (h : HasW w B 194 L) :
    Calls Tryz.prog 183 #[.pointer (some ⟨B, 0, none⟩), .int .i64 (k : Int), .int .i64 (4 + ((k : Int) + 1) % 4), .int .i64 (8 + ((k : Int) + 2) % 4), .int .i64 (12 + ((k : Int) + 3) % 4)] w fun e w' => e = .returned (.tuple #[]) ∧ HasW w' B 194 (qr L k (4 + (k + 1) % 4) (8 + (k + 2) % 4) (12 + (k + 3) % 4)) ∧ Only B w w' :=
  qr_any B L k (4 + (k + 1) % 4) (8 + (k + 2) % 4) (12 + (k + 3) % 4) (by omega) (by omega) (by omega) (by omega) hl w h
set_option maxRecDepth 100000 in
set_option maxHeartbeats 1000000 in
theorem double_any (B : Nat) (L : List (BitVec 32)) (hl : L.length = 16) (w : World) (h : HasW w B 194 L) :
    Calls Tryz.prog 135 #[.pointer (some ⟨B, 0, none⟩)] w fun e w' => e = .returned (.tuple #[]) ∧ HasW w' B 194 (dbl L) ∧ Only B w w' := by
  obtain ⟨D, hD⟩ : ∃ D, D = dbl L := ⟨_, rfl⟩
  rw [← hD]
  have HD0 := hide hD
  clear hD
  go_enter Tryz.func135, Tryz.ntmps135
  go_wp2
  go_loopw [4] (fun i wr => ∃ k : Nat, k ≤ 4 ∧ i = .int .i64 k ∧ HasW wr B 194 (colTo L k) ∧ Only B w wr)
     (fun i _ => 4 - (intOf i).toNat)
  case atStart => exact ⟨0, by omega, rfl, h, Only.refl _ _⟩
  case round =>
    obtain ⟨k, hk, rfl, h1, o1⟩ := hrel
    have l1 : (colTo L k).length = 16 := by rw [colTo_len, hl]
    by_cases hlt : k < 4
    · have HC := hide (fun wx hx => qr_sum B (colTo L k) k hlt l1 wx hx)
      go_wp2_with (go_at_call 183; refine (HC.out _ h1).mono ?_; rintro e w1 ⟨rfl, h2, o2⟩)
      go_roundw
      case rel => exact ⟨k + 1, by omega, by go_num, h2, o1.trans o2⟩
      case measure => simp [intOf]; omega
    · obtain rfl : k = 4 := by omega
      have hD : D = diaTo (colTo L 4) 4 := HD0.out
      clear HD0
      generalize colTo L 4 = M at h1 l1 hD
      have HD := hide hD
      clear hD
      go_wp2
      go_loopw [17] (fun i wx => ∃ k : Nat, k ≤ 4 ∧ i = .int .i64 k ∧ HasW wx B 194 (diaTo M k) ∧ Only B w wx)
        (fun i _ => 4 - (intOf i).toNat)
      case atStart => exact ⟨0, by omega, rfl, h1, o1⟩
      case round =>
        clear h1 o1 hk hlt
        obtain ⟨k, hk, rfl, h1, o1⟩ := hrel
        have l2 : (diaTo M k).length = 16 := by rw [diaTo_len, l1]
        by_cases hlt : k < 4
        · have HC := hide (fun wx hx => qr_dia B (diaTo M k) k hlt l2 wx hx)
          go_wp2_with (go_at_call 183; refine (HC.out _ h1).mono ?_; rintro e w1 ⟨rfl, h2, o2⟩)
          go_roundw
          case rel => (repeat apply Exists.intro); exact ⟨⟨k + 1, by omega, by go_num, h2, o1.trans o2⟩, rfl⟩
          case measure => simp [intOf]; omega
        · obtain rfl : k = 4 := by omega
          go_wp2
          go_end0
          exact ⟨rfl, by rw [HD.out]; exact h1, o1⟩
end Go.Proofs.YtdjpghgnjcmdnaaGreatDoor
