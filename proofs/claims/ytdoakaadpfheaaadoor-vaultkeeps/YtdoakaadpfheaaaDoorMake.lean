/- The program's own Make: a subject's key now, and which one it is. -/
import Derived.Test.YtdoakaadpfheaaaDoorKey
import Derived.Test.YtdoakaadpfheaaaDoorName
namespace Go.Proofs.YtdoakaadpfheaaaDoor
open Go.RowKit Go.Maps
attribute [local go_sem ↓] Go.wp_at_zero Go.wp_at_succ
set_option maxRecDepth 100000 in
set_option maxHeartbeats 1000000 in
theorem make_noName (b : Nat) (s : ByteArray) (w : World) (hs : nameB s.data.toList = false) :
    Calls Tryd.prog 35 #[.pointer (some ⟨b, 0, none⟩), .string s] w fun e w' => e = .returned (.tuple #[.int .i64 0, .string ByteArray.empty, .iface 30 (.int .i64 5)]) ∧ w' = w := by
  have Q := hide (fun wx => name_any s wx)
  rw [hs] at Q
  go_enter Tryd.func35, Tryd.ntmps35
  go_wp2_with (go_at_call 43; (with_reducible refine (Q.out _).mono ?_); rintro e w1 ⟨rfl, rfl⟩)
  go_ret3
  exact ⟨rfl, rfl⟩
theorem text_full {k : ByteArray} (h : k.size = 32) : k.toList.isEmpty = false := by
  rw [ByteArray.toList_eq, List.isEmpty_eq_false_iff]
  intro e
  have h1 : k.data.toList.length = 32 := by rw [Array.length_toList]; exact h
  rw [e] at h1
  simp at h1
set_option maxRecDepth 100000 in
set_option maxHeartbeats 1000000 in
theorem make_held (b : Nat) (mo : Option Nat) (sec s : ByteArray) (n : Nat) (σ : Kept) (w : World) (hs : s.size ≤ 60) (hN : nameB s.data.toList = true) (hV : ProgV w b mo sec n σ) (hh : (σ s.data.toList).2 = true) :
    Calls Tryd.prog 35 #[.pointer (some ⟨b, 0, none⟩), .string s] w fun e w' => e = .returned (.tuple #[.int .i64 ((σ s.data.toList).1 : Int), .string (keyB sec s (σ s.data.toList).1), .nilIface]) ∧ Below w.heap.size w w' := by
  have Q := hide (fun wx => name_any s wx)
  rw [hN] at Q
  have O := hide (of_any b mo sec s n σ w hs hV)
  rw [lastB_held hh] at O
  have d := text_full (keyB_size sec s (σ s.data.toList).1)
  generalize keyB sec s (σ s.data.toList).1 = k at O d
  generalize (σ s.data.toList).1 = a at O
  go_enter Tryd.func35, Tryd.ntmps35
  go_wp2_with (first
    | (go_at_call 43; (with_reducible refine (Q.out _).mono ?_); rintro e w1 ⟨rfl, rfl⟩)
    | (go_at_call 63; (with_reducible refine O.out.mono ?_); rintro e w2 ⟨rfl, hb2⟩))
  go_region
  go_wp2
  go_ret3
  exact ⟨rfl, (hb2.alloc hb2.size _).drew⟩
theorem wrap_one (a : Nat) (h : a < 1000) : IntKind.i64.wrap ((a : Int) + 1) = ((a + 1 : Nat) : Int) := by
  rw [IntKind.wrap_i64]
  omega
theorem Stirred.drew {L : List Nat} {a b : World} (h : Stirred L a b) : Stirred L a b.drew := ⟨h.os, h.tape, h.output, h.size, h.block⟩
theorem ProgV.drew {w : World} {b : Nat} {mo : Option Nat} {sec : ByteArray} {n : Nat} {σ : Kept} (h : ProgV w b mo sec n σ) : ProgV w.drew b mo sec n σ := h.turned (Stirred.refl [] w).drew (by simp) (by simp)
theorem Keeps.drew {w w' : World} {b : Nat} {mo : Option Nat} {sec : ByteArray} {n : Nat} {σ : Kept} (h : Keeps w w' b mo sec n σ) : Keeps w w'.drew b mo sec n σ := by
  obtain ⟨m, h1, h2, h3⟩ := h
  exact ⟨m, h1.drew, h2, h3.drew⟩
theorem Keeps.behind {a w w' : World} {b : Nat} {mo : Option Nat} {sec : ByteArray} {n : Nat} {σ : Kept} {L : List Nat} (h : Keeps w w' b mo sec n σ) (t : Stirred L a w) (hL : ∀ j ∈ L, a.heap.size ≤ j) : Keeps a w' b mo sec n σ := by
  obtain ⟨m, h1, h2, h3⟩ := h
  have t0 : Stirred (b :: mo.toList) a w := ⟨t.os, t.tape, t.output, t.size, fun k hk _ => t.block k hk (fun hm => by have := hL k hm; omega)⟩
  refine ⟨m, h1, ?_, t0.andThen h3 (fun j hj => .inl hj)⟩
  rcases h2 with h2 | ⟨h2, h4⟩
  · exact .inl h2
  · exact .inr ⟨h2, Nat.le_trans t.size h4⟩
theorem ProgV.more {w : World} {b : Nat} {mo : Option Nat} {sec : ByteArray} {n : Nat} {σ : Kept} (h : ProgV w b mo sec n σ) : ProgV w b mo sec (n + 1) σ :=
  ⟨h.row, h.none, fun m e => by obtain ⟨D, o, i⟩ := h.held m e; exact ⟨D, o.mono (by omega), i⟩⟩
set_option maxRecDepth 100000 in
set_option maxHeartbeats 1000000 in
theorem make_new (b : Nat) (mo : Option Nat) (sec s : ByteArray) (n : Nat) (σ : Kept) (w : World) (hp : sec.size ≤ 60) (hs : s.size ≤ 60) (hn : n < 1000) (hσ : (σ s.data.toList).1 ≤ n) (hN : nameB s.data.toList = true) (hK : TabK w) (hV : ProgV w b mo sec n σ) (hh : (σ s.data.toList).2 = false) :
    Calls Tryd.prog 35 #[.pointer (some ⟨b, 0, none⟩), .string s] w fun e w' => e = .returned (.tuple #[.int .i64 (((σ s.data.toList).1 + 1 : Nat) : Int), .string (keyB sec s ((σ s.data.toList).1 + 1)), .nilIface]) ∧ Keeps w w' b mo sec (n + 1) (made σ s.data.toList) := by
  have Q := hide (fun wx => name_any s wx)
  rw [hN] at Q
  have O := hide (of_any b mo sec s n σ w hs hV)
  rw [lastB_none hh] at O
  have hmk : ∀ D, HeldIs (keyL sec) D σ → HeldIs (keyL sec) (D.put (.string s.data.toList) (holdD ((σ s.data.toList).1 + 1) (keyB sec s ((σ s.data.toList).1 + 1)).data.toList)) (made σ s.data.toList) := fun D h => by
    have h1 := h.made hh
    unfold keyL at h1
    rw [bytes_back s] at h1
    exact h1
  have HMK := hide hmk
  clear hmk
  generalize made σ s.data.toList = σ' at HMK
  generalize (σ s.data.toList).1 = a at O HMK hσ
  have DV := hide (fun wx (h : HasR wx b 105 #[.string sec, .map mo]) hKx => derive_any b (a + 1) sec s mo wx h hp hs (by omega) hKx)
  have KP := hide (fun wx hVx => keep_any b mo sec s (keyB sec s (a + 1)) (a + 1) n σ σ' wx hs hn hVx HMK.out)
  have hw1 := wrap_one a (by omega)
  have hw2 : ((a + 1 : Nat) : Int) = (a : Int) + 1 := by omega
  rw [← hw1] at DV
  rw [hw2] at KP ⊢
  clear hw1 hw2 HMK
  generalize keyB sec s (a + 1) = k at DV KP
  have hbl := hV.row.lt
  have HV := hide hV
  clear hV
  go_enter Tryd.func35, Tryd.ntmps35
  go_wp2_with (first
    | (go_at_call 43; (with_reducible refine (Q.out _).mono ?_); rintro e w1 ⟨rfl, rfl⟩)
    | (go_at_call 63; (with_reducible refine O.out.mono ?_); rintro e w2 ⟨rfl, hb2⟩))
  obtain ⟨H, hH⟩ : ∃ H, H = w2.heap.size := ⟨_, rfl⟩
  have hbH : b < H := by rw [hH]; exact Nat.lt_of_lt_of_le hbl hb2.size
  have hX : HasR (w2.alloc (.cells #[.int .i64 (a : Int), .string ByteArray.empty] 107)).drew w2.heap.size 107 #[.int .i64 (a : Int), .string ByteArray.empty] := (HasR.new w2 107 _).drew
  have hbX : Below w1.heap.size w1 (w2.alloc (.cells #[.int .i64 (a : Int), .string ByteArray.empty] 107)).drew := (hb2.alloc hb2.size _).drew
  have hKX : TabK (w2.alloc (.cells #[.int .i64 (a : Int), .string ByteArray.empty] 107)).drew := hK.below hbX hK.lt
  have hVX := HV.out.below hbX
  have HVX := hide hVX
  have HX := hide hX
  have hR := hVX.row
  have HR := hide hR
  have HV0 := hide HV.out
  clear hVX hX hR HV
  have hnot : w2.heap.size ∉ b :: mo.toList := by
    intro hm
    rcases List.mem_cons.1 hm with h | h
    · omega
    · cases mo with
      | none => simp at h
      | some m =>
        obtain ⟨D, o, _⟩ := HV0.out.held m rfl
        have h1 := o.lt
        have h2 := hb2.size
        simp at h
        omega
  go_region_with (first
    | (go_at_call 64; (with_reducible refine (DV.out _ HR.out hKX).mono ?_); rintro e w3 ⟨rfl, hb3⟩; have hX3 := HX.out.below hb3 HX.out.lt; have c30 : w3.cell? ⟨w2.heap.size, 0, none⟩ = some (.int .i64 (a : Int)) := hX3.cell 0; have c31 : w3.cell? ⟨w2.heap.size, 1, none⟩ = some (.string ByteArray.empty) := hX3.cell 1; have f30 : w3.frozen? ⟨w2.heap.size, 0, none⟩ = false := hX3.free 0; have f31 : w3.frozen? ⟨w2.heap.size, 1, none⟩ = false := hX3.free 1; have HX3 := hide hX3; clear hX3))
  all_goals
    have t4 : Stirred [w2.heap.size] w3 ((w3.setCell ⟨w2.heap.size, 0, none⟩ (.int .i64 ((a : Int) + 1))).setCell ⟨w2.heap.size, 1, none⟩ (.string k)) :=
      (Stirred.setCell w3 ⟨w2.heap.size, 0, none⟩ _).andThen (Stirred.setCell _ ⟨w2.heap.size, 1, none⟩ _) (fun j hj => .inl hj)
    have hX4 : HasR ((w3.setCell ⟨w2.heap.size, 0, none⟩ (.int .i64 ((a : Int) + 1))).setCell ⟨w2.heap.size, 1, none⟩ (.string k)) w2.heap.size 107 #[.int .i64 ((a : Int) + 1), .string k] := (HX3.out.set 0 _).set 1 _
    have hb13 : Below w1.heap.size w1 w3 := hbX.trans (hb3.mono hbX.size)
    have hV3 := HVX.out.below hb3
    have hV4 := hV3.turned t4 (by simp; omega) (fun m e => by
      obtain ⟨D, o, _⟩ := HV0.out.held m e
      have := o.lt
      have := hb2.size
      simp
      omega)
    have T4 := hide t4
    have X4 := hide hX4
    have V4 := hide hV4
    clear t4 hX4 hV4 hV3
    go_wp2_with (go_at_call 65; (with_reducible refine (KP.out _ V4.out).mono ?_); rintro e w5 ⟨rfl, hk5⟩)
    have c50 : w5.cell? ⟨w2.heap.size, 0, none⟩ = some (.int .i64 ((a : Int) + 1)) := by
      obtain ⟨m, _, _, ht5⟩ := hk5
      rw [ht5.cell (p := ⟨w2.heap.size, 0, none⟩) X4.out.lt hnot]
      exact X4.out.cell 0
    have c51 : w5.cell? ⟨w2.heap.size, 1, none⟩ = some (.string k) := by
      obtain ⟨m, _, _, ht5⟩ := hk5
      rw [ht5.cell (p := ⟨w2.heap.size, 1, none⟩) X4.out.lt hnot]
      exact X4.out.cell 1
    have K5 := hide hk5
    clear hk5
    go_region
    go_wp2
    go_ret3
    exact ⟨rfl, (K5.out.behind ((Stirred.of_below hb13 [w2.heap.size]).andThen T4.out (fun j hj => .inl hj)) (fun j hj => by simp at hj; rw [hj]; exact hb2.size)).drew⟩
theorem made_at (σ : Kept) (l : List UInt8) (h : (σ l).2 = false) : (made σ l l).1 = (σ l).1 + 1 := by
  unfold made
  rw [if_pos rfl, h]
  rfl
/-- Make of a name, whatever the vault has of it. -/
theorem make_any (b : Nat) (mo : Option Nat) (sec s : ByteArray) (n : Nat) (σ : Kept) (w : World) (hp : sec.size ≤ 60) (hs : s.size ≤ 60) (hn : n < 1000) (hσ : (σ s.data.toList).1 ≤ n) (hN : nameB s.data.toList = true) (hK : TabK w) (hV : ProgV w b mo sec n σ) :
    Calls Tryd.prog 35 #[.pointer (some ⟨b, 0, none⟩), .string s] w fun e w' => e = .returned (.tuple #[.int .i64 ((made σ s.data.toList s.data.toList).1 : Int), .string (keyB sec s (made σ s.data.toList s.data.toList).1), .nilIface]) ∧ Keeps w w' b mo sec (n + 1) (made σ s.data.toList) := by
  cases hh : (σ s.data.toList).2
  · rw [made_at σ _ hh]
    exact make_new b mo sec s n σ w hp hs hn hσ hN hK hV hh
  · rw [made_held hh]
    refine (make_held b mo sec s n σ w hs hN hV hh).mono fun e w' ⟨he, hb⟩ => ⟨he, ?_⟩
    cases mo with
    | none =>
      have h0 := hV.none rfl
      rw [h0] at hh
      cases hh
    | some m => exact ⟨m, (hV.below hb).more, .inl rfl, Stirred.of_below hb _⟩
end Go.Proofs.YtdoakaadpfheaaaDoor
