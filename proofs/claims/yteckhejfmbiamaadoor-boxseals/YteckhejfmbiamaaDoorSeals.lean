/- The law's own call: every key, nonce, with, text and sealed text. -/
import Derived.Test.YteckhejfmbiamaaDoorRefBox
import Derived.Test.YteckhejfmbiamaaDoorNew
import Derived.Test.YteckhejfmbiamaaDoorBare
namespace Go.Proofs.YteckhejfmbiamaaDoor
open Go.RowKit
attribute [local go_sem ↓] Go.wp_at_zero Go.wp_at_succ
set_option maxRecDepth 100000 in
set_option maxHeartbeats 400000 in
theorem long_any (s : ByteArray) (w : World) : Calls Tryd.prog 8 #[.string s] w fun e w' => e = .returned (.bool (decide (60 < s.size))) ∧ w' = w := by
  go_enter Tryd.func8, Tryd.ntmps8
  go_wp2
  go_ret
  exact ⟨ret_val (by simp; omega), rfl⟩
set_option maxRecDepth 100000 in
set_option maxHeartbeats 400000 in
/-- The law's look at an error of the program's own and the document's number of it. -/
theorem bare_same (n : Int) (w : World) (hE : TabE w) : Calls Tryd.prog 20 #[.iface 30 (.int .i64 n), .int .i64 n] w fun e w' => e = .returned (.bool true) ∧ Below w.heap.size w w' := by
  have Q := hide (place_arg n w hE)
  go_enter Tryd.func20, Tryd.ntmps20
  go_wp2_with (go_at_call 44; refine Q.out.mono ?_; rintro e w1 ⟨rfl, hb⟩)
  go_ret
  exact ⟨rfl, hb⟩
theorem same_below {P : Program} {f : FuncId} {args : Array Value} {w : World} {v : Value} (h : Calls P f args w fun e w' => e = .returned v ∧ w' = w) : Calls P f args w fun e w' => e = .returned v ∧ Below w.heap.size w w' :=
  h.mono fun _ _ ⟨he, hw⟩ => ⟨he, hw ▸ Below.refl _ _⟩
/-- What both sealings are: the text, the document's number of the error, the program's error. -/
theorem seals_both (key nonce wi s : ByteArray) (hw : wi.size ≤ 20000) :
    ∃ (a : ByteArray) (n : Int) (v : Value), (∀ w c, RefR w c → Calls Tryd.prog 23 #[.pointer (some ⟨c, 0, none⟩), .string key, .string nonce, .string wi, .string s] w fun e w' => e = .returned (.tuple #[.string a, .int .i64 n]) ∧ Below w.heap.size w w') ∧
      (∀ w, TabK w → Calls Tryd.prog 24 #[.string key, .string nonce, .string wi, .string s] w fun e w' => e = .returned (.tuple #[.string a, v]) ∧ Below w.heap.size w w') ∧
      (∀ w, TabE w → Calls Tryd.prog 20 #[v, .int .i64 n] w fun e w' => e = .returned (.bool true) ∧ Below w.heap.size w w') := by
  by_cases h : s.size ≤ 400
  · by_cases hb : key.size = 32 ∧ nonce.size = 12
    · exact ⟨_, 0, .nilIface, fun w c hR => refSeal_ok c key nonce wi s w h hb.1 hb.2 hw hR, fun w hK => seal_ok key nonce wi s w h hb.1 hb.2 hw hK, fun w _ => same_below (bare_nil w)⟩
    · exact ⟨_, 1, _, fun w c _ => same_below (refSeal_arg c key nonce wi s w h hb), fun w _ => same_below (seal_arg key nonce wi s w h hb), fun w hE => bare_same 1 w hE⟩
  · exact ⟨_, 4, _, fun w c _ => same_below (refSeal_limit c key nonce wi s w (by omega)), fun w _ => same_below (seal_limit key nonce wi s w (by omega)), fun w hE => bare_same 4 w hE⟩
/-- What both openings are. -/
theorem opens_both (key nonce wi s : ByteArray) (hw : wi.size ≤ 20000) :
    ∃ (a : ByteArray) (n : Int) (v : Value), (∀ w c, RefR w c → Calls Tryd.prog 25 #[.pointer (some ⟨c, 0, none⟩), .string key, .string nonce, .string wi, .string s] w fun e w' => e = .returned (.tuple #[.string a, .int .i64 n]) ∧ Below w.heap.size w w') ∧
      (∀ w, TabK w → Calls Tryd.prog 26 #[.string key, .string nonce, .string wi, .string s] w fun e w' => e = .returned (.tuple #[.string a, v]) ∧ Below w.heap.size w w') ∧
      (∀ w, TabE w → Calls Tryd.prog 20 #[v, .int .i64 n] w fun e w' => e = .returned (.bool true) ∧ Below w.heap.size w w') := by
  by_cases hb : key.size = 32 ∧ nonce.size = 12
  · by_cases h : 16 ≤ s.size ∧ s.size ≤ 416
    · by_cases ht : s.extract 0 16 = tagB key nonce wi (s.extract 16 s.size)
      · exact ⟨_, 0, .nilIface, fun w c hR => unseal_ok c key nonce wi s w hb.1 hb.2 hw h.1 h.2 hR ht, fun w hK => open_ok key nonce wi s w hb.1 hb.2 hw h.1 h.2 hK ht, fun w _ => same_below (bare_nil w)⟩
      · exact ⟨_, 15, _, fun w c hR => unseal_tag c key nonce wi s w hb.1 hb.2 hw h.1 h.2 hR ht, fun w hK => open_tag key nonce wi s w hb.1 hb.2 hw h.1 h.2 hK ht, fun w hE => bare_same 15 w hE⟩
    · exact ⟨_, 15, _, fun w c _ => same_below (unseal_size c key nonce wi s w hb.1 hb.2 (by omega)), fun w _ => same_below (open_size key nonce wi s w hb.1 hb.2 (by omega)), fun w hE => bare_same 15 w hE⟩
  · exact ⟨_, 1, _, fun w c _ => same_below (unseal_arg c key nonce wi s w hb), fun w _ => same_below (open_arg key nonce wi s w hb), fun w hE => bare_same 1 w hE⟩
theorem refR_of {w : World} {b : Nat} (h : HasW w b 53 (newTo 64)) : RefR w b := by
  rw [new_full] at h
  have h8 : st0.l.length = 8 := rfl
  have h64 : kTab.length = 64 := rfl
  refine ⟨fun i hi => ?_, fun i hi => ?_⟩
  · rw [h.cell i (by simp [h8, h64]; omega)]
    congr 3
    unfold wd
    rw [List.getD_eq_getElem?_getD, List.getElem?_append_left (by omega), ← List.getD_eq_getElem?_getD]
  · rw [h.cell (8 + i) (by simp [h8, h64]; omega)]
    congr 3
    unfold wd
    rw [List.getD_eq_getElem?_getD, List.getElem?_append_right (by omega), ← List.getD_eq_getElem?_getD]
    congr 1
    omega
/-- Two texts side by side: the one at k. -/
def twoAt (s a : ByteArray) (k : Nat) : ByteArray := if k = 0 then s else a
theorem two_cell {w w' : World} (s a : ByteArray) (hb : Below (w.heap.size + 1) (w.alloc (.cells #[.string s, .string a] 9)) w') (k : Nat) (hk : k < 2) : w'.cell? ⟨w.heap.size, k, none⟩ = some (.string (twoAt s a k)) := by
  rw [hb.cell (p := ⟨w.heap.size, k, none⟩) (by simp)]
  match k, hk with
  | 0, _ => simp [twoAt]
  | 1, _ => simp [twoAt]
set_option maxRecDepth 100000 in
set_option maxHeartbeats 2000000 in
/-- The law's call where nothing is too long. -/
theorem seals_main (key nonce wi t s : ByteArray) (w : World) (hk : key.size ≤ 60) (hn : nonce.size ≤ 60) (hw : wi.size ≤ 60) (ht : t.size ≤ 450) (hs : s.size ≤ 450) (hE : TabE w) (hK : TabK w) :
    Calls Tryd.prog 5 #[.string key, .string nonce, .string wi, .string t, .string s] w fun e w' => e = .returned (.bool true) ∧ Below w.heap.size w w' := by
  have k1 := fun wx => long_any key wx
  have k2 := fun wx => long_any nonce wx
  have k3 := fun wx => long_any wi wx
  rw [decide_eq_false (by omega)] at k1 k2 k3
  have K1 := hide k1
  have K2 := hide k2
  have K3 := hide k3
  clear k1 k2 k3
  have d4 : decide ((450 : Int) < (t.size : Int)) = false := decide_eq_false (by omega)
  have d5 : decide ((450 : Int) < (s.size : Int)) = false := decide_eq_false (by omega)
  obtain ⟨a, n1, v1, r1, p1, b1⟩ := seals_both key nonce wi t (by omega)
  have O := hide (fun x => opens_both key nonce wi x (by omega))
  have R1 := hide r1
  have P1 := hide p1
  have B1 := hide b1
  clear r1 p1 b1
  go_enter Tryd.func5, Tryd.ntmps5
  go_wp2_with (first
    | (go_at_call 8; (with_reducible refine (K1.out _).mono ?_); rintro e w1 ⟨rfl, rfl⟩)
    | (go_at_call 8; (with_reducible refine (K2.out _).mono ?_); rintro e w1 ⟨rfl, rfl⟩)
    | (go_at_call 8; (with_reducible refine (K3.out _).mono ?_); rintro e w1 ⟨rfl, rfl⟩)
    | (go_at_call 9; (with_reducible refine (new_any _).mono ?_); rintro e w2 ⟨rfl, hN, hb2⟩; have hR2 := refR_of hN; have hE2 := hE.below hb2 hE.lt; have hK2 := hK.below hb2 hK.lt)
    | (go_at_call 23; (with_reducible refine (R1.out _ _ hR2).mono ?_); rintro e w3 ⟨rfl, hb3⟩; have hR3 := hR2.below hb3 hR2.lt; have hE3 := hE2.below hb3 hE2.lt; have hK3 := hK2.below hb3 hK2.lt; have hB3 := hb2.trans (hb3.mono hb2.size))
    | (go_at_call 24; (with_reducible refine (P1.out _ hK3).mono ?_); rintro e w4 ⟨rfl, hb4⟩; have hR4 := hR3.below hb4 hR3.lt; have hE4 := hE3.below hb4 hE3.lt; have hK4 := hK3.below hb4 hK3.lt; have hB4 := hB3.trans (hb4.mono hB3.size))
    | (go_at_call 20; (with_reducible refine (B1.out _ hE4).mono ?_); rintro e w5 ⟨rfl, hb5⟩; have hR5 := hR4.below hb5 hR4.lt; have hE5 := hE4.below hb5 hE4.lt; have hK5 := hK4.below hb5 hK4.lt; have hB5 := hB4.trans (hb5.mono hB4.size)))
  clear hR2 hE2 hK2 hb3 hR3 hE3 hK3 hB3 hb4 hR4 hE4 hK4 hB4 hb5 hN R1 P1 B1 K1 K2 K3 d4 d5
  have hl5 := hR5.lt
  go_loopw [73] (fun i wr => ∃ k : Nat, k ≤ 2 ∧ i = .int .i64 k ∧ Below (w5.heap.size + 1) (w5.alloc (.cells #[.string s, .string a] 9)) wr)
    (fun i _ => 2 - (intOf i).toNat)
  case atStart => exact ⟨0, by omega, rfl, Below.refl _ _⟩
  case round =>
    obtain ⟨k, hk, rfl, hb⟩ := hrel
    have hbs := hb.size
    rw [World.size_alloc] at hbs
    have hb0 : Below w5.heap.size w5 wr := ((Below.refl _ w5).alloc (Nat.le_refl _) _).trans (hb.mono (by omega))
    have hRr := hR5.below hb0 hl5
    have hEr := hE5.below hb0 hE5.lt
    have hKr := hK5.below hb0 hK5.lt
    by_cases hlt : k < 2
    · have hc := two_cell s a hb k hlt
      generalize twoAt s a k = x at hc
      obtain ⟨a2, n2, v2, r2, p2, b2⟩ := O.out x
      have R2 := hide r2
      have P2 := hide p2
      have B2 := hide b2
      have i1 : (k : Int) < 2 := by omega
      clear r2 p2 b2 O hR5 hE5 hK5
      go_wp2_with (first
        | (go_at_call 25; (with_reducible refine (R2.out _ _ hRr).mono ?_); rintro e w6 ⟨rfl, hb6⟩; have hE6 := hEr.below hb6 hEr.lt; have hK6 := hKr.below hb6 hKr.lt)
        | (go_at_call 26; (with_reducible refine (P2.out _ hK6).mono ?_); rintro e w7 ⟨rfl, hb7⟩; have hE7 := hE6.below hb7 hE6.lt)
        | (go_at_call 20; (with_reducible refine (B2.out _ hE7).mono ?_); rintro e w8 ⟨rfl, hb8⟩))
      have h6 := hb6.size
      have h7 := hb7.size
      go_roundw
      case rel => exact ⟨k + 1, by omega, by go_num, hb.trans ((hb6.mono (by omega)).trans ((hb7.mono (by omega)).trans (hb8.mono (by omega))))⟩
      case measure => simp [intOf]; omega
    · have i1 : ¬ (k : Int) < 2 := by omega
      go_wp2
      go_ret
      exact ⟨rfl, hB5.trans (hb0.mono hB5.size)⟩
set_option maxRecDepth 100000 in
set_option maxHeartbeats 2000000 in
theorem seals_any (key nonce wi t s : ByteArray) (w : World) (hE : TabE w) (hK : TabK w) :
    Calls Tryd.prog 5 #[.string key, .string nonce, .string wi, .string t, .string s] w fun e w' => e = .returned (.bool true) ∧ Below w.heap.size w w' := by
  have k1 := long_any key w
  by_cases hk : 60 < key.size
  · rw [decide_eq_true hk] at k1
    have K1 := hide k1
    clear k1
    go_enter Tryd.func5, Tryd.ntmps5
    go_wp2_with (go_at_call 8; (with_reducible refine K1.out.mono ?_); rintro e w1 ⟨rfl, rfl⟩)
    go_ret
    exact ⟨rfl, Below.refl _ _⟩
  rw [decide_eq_false hk] at k1
  have K1 := hide k1
  clear k1
  have k2 := long_any nonce w
  by_cases hn : 60 < nonce.size
  · rw [decide_eq_true hn] at k2
    have K2 := hide k2
    clear k2
    go_enter Tryd.func5, Tryd.ntmps5
    go_wp2_with (first | (go_at_call 8; (with_reducible refine K1.out.mono ?_); rintro e w1 ⟨rfl, rfl⟩) | (go_at_call 8; (with_reducible refine K2.out.mono ?_); rintro e w1 ⟨rfl, rfl⟩))
    go_ret
    exact ⟨rfl, Below.refl _ _⟩
  rw [decide_eq_false hn] at k2
  have K2 := hide k2
  clear k2
  have k3 := long_any wi w
  by_cases hw : 60 < wi.size
  · rw [decide_eq_true hw] at k3
    have K3 := hide k3
    clear k3
    go_enter Tryd.func5, Tryd.ntmps5
    go_wp2_with (first | (go_at_call 8; (with_reducible refine K1.out.mono ?_); rintro e w1 ⟨rfl, rfl⟩) | (go_at_call 8; (with_reducible refine K2.out.mono ?_); rintro e w1 ⟨rfl, rfl⟩) | (go_at_call 8; (with_reducible refine K3.out.mono ?_); rintro e w1 ⟨rfl, rfl⟩))
    go_ret
    exact ⟨rfl, Below.refl _ _⟩
  rw [decide_eq_false hw] at k3
  have K3 := hide k3
  clear k3
  by_cases ht : 450 < t.size
  · have d4 : decide ((450 : Int) < (t.size : Int)) = true := decide_eq_true (by omega)
    go_enter Tryd.func5, Tryd.ntmps5
    go_wp2_with (first | (go_at_call 8; (with_reducible refine K1.out.mono ?_); rintro e w1 ⟨rfl, rfl⟩) | (go_at_call 8; (with_reducible refine K2.out.mono ?_); rintro e w1 ⟨rfl, rfl⟩) | (go_at_call 8; (with_reducible refine K3.out.mono ?_); rintro e w1 ⟨rfl, rfl⟩))
    go_ret
    exact ⟨rfl, Below.refl _ _⟩
  by_cases hs : 450 < s.size
  · have d4 : decide ((450 : Int) < (t.size : Int)) = false := decide_eq_false (by omega)
    have d5 : decide ((450 : Int) < (s.size : Int)) = true := decide_eq_true (by omega)
    go_enter Tryd.func5, Tryd.ntmps5
    go_wp2_with (first | (go_at_call 8; (with_reducible refine K1.out.mono ?_); rintro e w1 ⟨rfl, rfl⟩) | (go_at_call 8; (with_reducible refine K2.out.mono ?_); rintro e w1 ⟨rfl, rfl⟩) | (go_at_call 8; (with_reducible refine K3.out.mono ?_); rintro e w1 ⟨rfl, rfl⟩))
    go_ret
    exact ⟨rfl, Below.refl _ _⟩
  exact seals_main key nonce wi t s w (by omega) (by omega) (by omega) (by omega) (by omega) hE hK
end Go.Proofs.YteckhejfmbiamaaDoor
