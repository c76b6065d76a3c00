/- The law's own call: what is sealed is opened, and what was opened was sealed just so. -/
import Derived.Test.YteckhejfmbiamaaDoorBoxed
namespace Go.Proofs.YteckhejfmbiamaaDoor
open Go.RowKit
attribute [local go_sem ↓] Go.wp_at_zero Go.wp_at_succ
/-- What the opening of a text gives: nothing and an error, or a text that is sealed as it. -/
theorem open_either (key nonce wi s : ByteArray) (hw : wi.size ≤ 20000) :
    (∃ n : Int, ∀ w, TabK w → Calls Tryd.prog 26 #[.string key, .string nonce, .string wi, .string s] w fun e w' => e = .returned (.tuple #[.string ByteArray.empty, .iface 30 (.int .i64 n)]) ∧ Below w.heap.size w w') ∨
    ∃ t : ByteArray, (∀ w, TabK w → Calls Tryd.prog 26 #[.string key, .string nonce, .string wi, .string s] w fun e w' => e = .returned (.tuple #[.string t, .nilIface]) ∧ Below w.heap.size w w') ∧
      ∀ w, TabK w → Calls Tryd.prog 24 #[.string key, .string nonce, .string wi, .string t] w fun e w' => e = .returned (.tuple #[.string s, .nilIface]) ∧ Below w.heap.size w w' := by
  have up : ∀ {P : Program} {f : FuncId} {args : Array Value} {w : World} {v : Value}, (Calls P f args w fun e w' => e = .returned v ∧ w' = w) → Calls P f args w fun e w' => e = .returned v ∧ Below w.heap.size w w' :=
    fun h => h.mono fun _ _ ⟨he, hw⟩ => ⟨he, hw ▸ Below.refl _ _⟩
  by_cases hb : key.size = 32 ∧ nonce.size = 12
  · by_cases h : 16 ≤ s.size ∧ s.size ≤ 416
    · by_cases ht : s.extract 0 16 = tagB key nonce wi (s.extract 16 s.size)
      · exact .inr ⟨_, fun w hK => open_ok key nonce wi s w hb.1 hb.2 hw h.1 h.2 hK ht, fun w hK => seal_back key nonce wi s w hb.1 hb.2 hw h.1 h.2 hK ht⟩
      · exact .inl ⟨15, fun w hK => open_tag key nonce wi s w hb.1 hb.2 hw h.1 h.2 hK ht⟩
    · exact .inl ⟨15, fun w _ => up (open_size key nonce wi s w hb.1 hb.2 (by omega))⟩
  · exact .inl ⟨1, fun w _ => up (open_arg key nonce wi s w hb)⟩
/-- What the sealing of a text gives: a text that is opened to it, or an error where one is asked. -/
theorem seal_either (key nonce wi s : ByteArray) (hw : wi.size ≤ 20000) :
    (∃ x : ByteArray, (∀ w, TabK w → Calls Tryd.prog 24 #[.string key, .string nonce, .string wi, .string s] w fun e w' => e = .returned (.tuple #[.string x, .nilIface]) ∧ Below w.heap.size w w') ∧
      ∀ w, TabK w → Calls Tryd.prog 26 #[.string key, .string nonce, .string wi, .string x] w fun e w' => e = .returned (.tuple #[.string s, .nilIface]) ∧ Below w.heap.size w w') ∨
    (∃ n : Int, ∀ w, TabK w → Calls Tryd.prog 24 #[.string key, .string nonce, .string wi, .string s] w fun e w' => e = .returned (.tuple #[.string ByteArray.empty, .iface 30 (.int .i64 n)]) ∧ Below w.heap.size w w') ∧
      (400 < s.size ∨ s.size ≤ 400 ∧ key.size ≠ 32 ∨ s.size ≤ 400 ∧ key.size = 32 ∧ nonce.size ≠ 12) := by
  have up : ∀ {P : Program} {f : FuncId} {args : Array Value} {w : World} {v : Value}, (Calls P f args w fun e w' => e = .returned v ∧ w' = w) → Calls P f args w fun e w' => e = .returned v ∧ Below w.heap.size w w' :=
    fun h => h.mono fun _ _ ⟨he, hw⟩ => ⟨he, hw ▸ Below.refl _ _⟩
  by_cases h : s.size ≤ 400
  · by_cases hb : key.size = 32 ∧ nonce.size = 12
    · exact .inl ⟨sealB key nonce wi s, fun w hK => seal_ok key nonce wi s w h hb.1 hb.2 hw hK, fun w hK => open_back key nonce wi s w h hb.1 hb.2 hw hK⟩
    · exact .inr ⟨⟨1, fun w _ => up (seal_arg key nonce wi s w h hb)⟩, by omega⟩
  · exact .inr ⟨⟨4, fun w _ => up (seal_limit key nonce wi s w (by omega))⟩, by omega⟩
set_option maxRecDepth 100000 in
set_option maxHeartbeats 2000000 in
theorem back_main (key nonce wi t s : ByteArray) (w : World) (hk : key.size ≤ 40) (hn : nonce.size ≤ 40) (hw : wi.size ≤ 60) (ht : t.size ≤ 450) (hs : s.size ≤ 450) (hK : TabK w) :
    Calls Tryd.prog 6 #[.string key, .string nonce, .string wi, .string t, .string s] w fun e w' => e = .returned (.bool true) ∧ Below w.heap.size w w' := by
  have d1 : decide ((40 : Int) < (key.size : Int)) = false := decide_eq_false (by omega)
  have d2 : decide ((40 : Int) < (nonce.size : Int)) = false := decide_eq_false (by omega)
  have d3 : decide ((60 : Int) < (wi.size : Int)) = false := decide_eq_false (by omega)
  have d4 : decide ((450 : Int) < (t.size : Int)) = false := decide_eq_false (by omega)
  have d5 : decide ((450 : Int) < (s.size : Int)) = false := decide_eq_false (by omega)
  have F := hide (sealed_any w hK)
  rcases open_either key nonce wi s (by omega) with ⟨n, o⟩ | ⟨u, o, o'⟩
  · have O := hide o
    clear o
    rcases seal_either key nonce wi t (by omega) with ⟨x, y, y'⟩ | ⟨⟨m, y⟩, hc⟩
    · have Y := hide y
      have Y' := hide y'
      clear y y'
      go_enter Tryd.func6, Tryd.ntmps6
      go_wp2_with (first
        | (go_at_call 27; (with_reducible refine F.out.mono ?_); rintro e w1 ⟨rfl, hb1⟩; have hK1 := hK.below hb1 hK.lt)
        | (go_at_call 26; (with_reducible refine (O.out _ hK1).mono ?_); rintro e w2 ⟨rfl, hb2⟩; have hK2 := hK1.below hb2 hK1.lt; have hB2 := hb1.trans (hb2.mono hb1.size))
        | (go_at_call 24; (with_reducible refine (Y.out _ hK2).mono ?_); rintro e w3 ⟨rfl, hb3⟩; have hK3 := hK2.below hb3 hK2.lt; have hB3 := hB2.trans (hb3.mono hB2.size))
        | (go_at_call 26; (with_reducible refine (Y'.out _ hK3).mono ?_); rintro e w4 ⟨rfl, hb4⟩; have hB4 := hB3.trans (hb4.mono hB3.size)))
      go_ret
      exact ⟨rfl, hB4⟩
    · have Y := hide y
      clear y
      rcases hc with hc | ⟨hc, hc2⟩ | ⟨hc, hc2, hc3⟩
      · have x1 : decide ((400 : Int) < (t.size : Int)) = true := decide_eq_true (by omega)
        go_enter Tryd.func6, Tryd.ntmps6
        go_wp2_with (first
          | (go_at_call 27; (with_reducible refine F.out.mono ?_); rintro e w1 ⟨rfl, hb1⟩; have hK1 := hK.below hb1 hK.lt)
          | (go_at_call 26; (with_reducible refine (O.out _ hK1).mono ?_); rintro e w2 ⟨rfl, hb2⟩; have hK2 := hK1.below hb2 hK1.lt; have hB2 := hb1.trans (hb2.mono hb1.size))
          | (go_at_call 24; (with_reducible refine (Y.out _ hK2).mono ?_); rintro e w3 ⟨rfl, hb3⟩; have hB3 := hB2.trans (hb3.mono hB2.size)))
        go_ret
        exact ⟨rfl, hB3⟩
      · have x1 : decide ((400 : Int) < (t.size : Int)) = false := decide_eq_false (by omega)
        have x2 : ((key.size : Int) == 32) = false := by simp; omega
        go_enter Tryd.func6, Tryd.ntmps6
        go_wp2_with (first
          | (go_at_call 27; (with_reducible refine F.out.mono ?_); rintro e w1 ⟨rfl, hb1⟩; have hK1 := hK.below hb1 hK.lt)
          | (go_at_call 26; (with_reducible refine (O.out _ hK1).mono ?_); rintro e w2 ⟨rfl, hb2⟩; have hK2 := hK1.below hb2 hK1.lt; have hB2 := hb1.trans (hb2.mono hb1.size))
          | (go_at_call 24; (with_reducible refine (Y.out _ hK2).mono ?_); rintro e w3 ⟨rfl, hb3⟩; have hB3 := hB2.trans (hb3.mono hB2.size)))
        go_ret
        exact ⟨rfl, hB3⟩
      · have x1 : decide ((400 : Int) < (t.size : Int)) = false := decide_eq_false (by omega)
        have x2 : ((key.size : Int) == 32) = true := by simp; omega
        have x3 : ((nonce.size : Int) == 12) = false := by simp; omega
        go_enter Tryd.func6, Tryd.ntmps6
        go_wp2_with (first
          | (go_at_call 27; (with_reducible refine F.out.mono ?_); rintro e w1 ⟨rfl, hb1⟩; have hK1 := hK.below hb1 hK.lt)
          | (go_at_call 26; (with_reducible refine (O.out _ hK1).mono ?_); rintro e w2 ⟨rfl, hb2⟩; have hK2 := hK1.below hb2 hK1.lt; have hB2 := hb1.trans (hb2.mono hb1.size))
          | (go_at_call 24; (with_reducible refine (Y.out _ hK2).mono ?_); rintro e w3 ⟨rfl, hb3⟩; have hB3 := hB2.trans (hb3.mono hB2.size)))
        go_ret
        exact ⟨ret_val (congrArg Value.bool (by simp; omega)), hB3⟩
  · have O := hide o
    have O' := hide o'
    clear o o'
    rcases seal_either key nonce wi t (by omega) with ⟨x, y, y'⟩ | ⟨⟨m, y⟩, hc⟩
    · have Y := hide y
      have Y' := hide y'
      clear y y'
      go_enter Tryd.func6, Tryd.ntmps6
      go_wp2_with (first
        | (go_at_call 27; (with_reducible refine F.out.mono ?_); rintro e w1 ⟨rfl, hb1⟩; have hK1 := hK.below hb1 hK.lt)
        | (go_at_call 26; (with_reducible refine (O.out _ hK1).mono ?_); rintro e w2 ⟨rfl, hb2⟩; have hK2 := hK1.below hb2 hK1.lt; have hB2 := hb1.trans (hb2.mono hb1.size))
        | (go_at_call 24; (with_reducible refine (O'.out _ hK2).mono ?_); rintro e w3 ⟨rfl, hb3⟩; have hK3 := hK2.below hb3 hK2.lt; have hB3 := hB2.trans (hb3.mono hB2.size))
        | (go_at_call 24; (with_reducible refine (Y.out _ hK3).mono ?_); rintro e w4 ⟨rfl, hb4⟩; have hK4 := hK3.below hb4 hK3.lt; have hB4 := hB3.trans (hb4.mono hB3.size))
        | (go_at_call 26; (with_reducible refine (Y'.out _ hK4).mono ?_); rintro e w5 ⟨rfl, hb5⟩; have hB5 := hB4.trans (hb5.mono hB4.size)))
      go_ret
      exact ⟨rfl, hB5⟩
    · have Y := hide y
      clear y
      rcases hc with hc | ⟨hc, hc2⟩ | ⟨hc, hc2, hc3⟩
      · have x1 : decide ((400 : Int) < (t.size : Int)) = true := decide_eq_true (by omega)
        go_enter Tryd.func6, Tryd.ntmps6
        go_wp2_with (first
          | (go_at_call 27; (with_reducible refine F.out.mono ?_); rintro e w1 ⟨rfl, hb1⟩; have hK1 := hK.below hb1 hK.lt)
          | (go_at_call 26; (with_reducible refine (O.out _ hK1).mono ?_); rintro e w2 ⟨rfl, hb2⟩; have hK2 := hK1.below hb2 hK1.lt; have hB2 := hb1.trans (hb2.mono hb1.size))
          | (go_at_call 24; (with_reducible refine (O'.out _ hK2).mono ?_); rintro e w3 ⟨rfl, hb3⟩; have hK3 := hK2.below hb3 hK2.lt; have hB3 := hB2.trans (hb3.mono hB2.size))
          | (go_at_call 24; (with_reducible refine (Y.out _ hK3).mono ?_); rintro e w4 ⟨rfl, hb4⟩; have hB4 := hB3.trans (hb4.mono hB3.size)))
        go_ret
        exact ⟨rfl, hB4⟩
      · have x1 : decide ((400 : Int) < (t.size : Int)) = false := decide_eq_false (by omega)
        have x2 : ((key.size : Int) == 32) = false := by simp; omega
        go_enter Tryd.func6, Tryd.ntmps6
        go_wp2_with (first
          | (go_at_call 27; (with_reducible refine F.out.mono ?_); rintro e w1 ⟨rfl, hb1⟩; have hK1 := hK.below hb1 hK.lt)
          | (go_at_call 26; (with_reducible refine (O.out _ hK1).mono ?_); rintro e w2 ⟨rfl, hb2⟩; have hK2 := hK1.below hb2 hK1.lt; have hB2 := hb1.trans (hb2.mono hb1.size))
          | (go_at_call 24; (with_reducible refine (O'.out _ hK2).mono ?_); rintro e w3 ⟨rfl, hb3⟩; have hK3 := hK2.below hb3 hK2.lt; have hB3 := hB2.trans (hb3.mono hB2.size))
          | (go_at_call 24; (with_reducible refine (Y.out _ hK3).mono ?_); rintro e w4 ⟨rfl, hb4⟩; have hB4 := hB3.trans (hb4.mono hB3.size)))
        go_ret
        exact ⟨rfl, hB4⟩
      · have x1 : decide ((400 : Int) < (t.size : Int)) = false := decide_eq_false (by omega)
        have x2 : ((key.size : Int) == 32) = true := by simp; omega
        have x3 : ((nonce.size : Int) == 12) = false := by simp; omega
        go_enter Tryd.func6, Tryd.ntmps6
        go_wp2_with (first
          | (go_at_call 27; (with_reducible refine F.out.mono ?_); rintro e w1 ⟨rfl, hb1⟩; have hK1 := hK.below hb1 hK.lt)
          | (go_at_call 26; (with_reducible refine (O.out _ hK1).mono ?_); rintro e w2 ⟨rfl, hb2⟩; have hK2 := hK1.below hb2 hK1.lt; have hB2 := hb1.trans (hb2.mono hb1.size))
          | (go_at_call 24; (with_reducible refine (O'.out _ hK2).mono ?_); rintro e w3 ⟨rfl, hb3⟩; have hK3 := hK2.below hb3 hK2.lt; have hB3 := hB2.trans (hb3.mono hB2.size))
          | (go_at_call 24; (with_reducible refine (Y.out _ hK3).mono ?_); rintro e w4 ⟨rfl, hb4⟩; have hB4 := hB3.trans (hb4.mono hB3.size)))
        go_ret
        exact ⟨ret_val (congrArg Value.bool (by simp; omega)), hB4⟩
set_option maxRecDepth 100000 in
set_option maxHeartbeats 2000000 in
theorem back_any (key nonce wi t s : ByteArray) (w : World) (hK : TabK w) :
    Calls Tryd.prog 6 #[.string key, .string nonce, .string wi, .string t, .string s] w fun e w' => e = .returned (.bool true) ∧ Below w.heap.size w w' := by
  by_cases hk : 40 < key.size
  · have d1 : decide ((40 : Int) < (key.size : Int)) = true := decide_eq_true (by omega)
    go_enter Tryd.func6, Tryd.ntmps6
    go_wp2
    go_ret
    exact ⟨rfl, Below.refl _ _⟩
  have d1 : decide ((40 : Int) < (key.size : Int)) = false := decide_eq_false (by omega)
  by_cases hn : 40 < nonce.size
  · have d2 : decide ((40 : Int) < (nonce.size : Int)) = true := decide_eq_true (by omega)
    go_enter Tryd.func6, Tryd.ntmps6
    go_wp2
    go_ret
    exact ⟨rfl, Below.refl _ _⟩
  have d2 : decide ((40 : Int) < (nonce.size : Int)) = false := decide_eq_false (by omega)
  by_cases hw : 60 < wi.size
  · have d3 : decide ((60 : Int) < (wi.size : Int)) = true := decide_eq_true (by omega)
    go_enter Tryd.func6, Tryd.ntmps6
    go_wp2
    go_ret
    exact ⟨rfl, Below.refl _ _⟩
  have d3 : decide ((60 : Int) < (wi.size : Int)) = false := decide_eq_false (by omega)
  by_cases ht : 450 < t.size
  · have d4 : decide ((450 : Int) < (t.size : Int)) = true := decide_eq_true (by omega)
    go_enter Tryd.func6, Tryd.ntmps6
    go_wp2
    go_ret
    exact ⟨rfl, Below.refl _ _⟩
  have d4 : decide ((450 : Int) < (t.size : Int)) = false := decide_eq_false (by omega)
  by_cases hs : 450 < s.size
  · have d5 : decide ((450 : Int) < (s.size : Int)) = true := decide_eq_true (by omega)
    go_enter Tryd.func6, Tryd.ntmps6
    go_wp2
    go_ret
    exact ⟨rfl, Below.refl _ _⟩
  exact back_main key nonce wi t s w (by omega) (by omega) (by omega) (by omega) (by omega) hK
end Go.Proofs.YteckhejfmbiamaaDoor
