/- The law's own call: what is changed is noticed. -/
import Derived.Test.YteckhejfmbiamaaDoorFlip
import Derived.Test.YteckhejfmbiamaaDoorBare
import Derived.Deep.CutBlock
namespace Go.Proofs.YteckhejfmbiamaaDoor
open Go.RowKit
attribute [local go_sem ↓] Go.wp_at_zero Go.wp_at_succ
/-- The program's mark of four texts that have just been laid. -/
theorem mark_new (p q r s : ByteArray) (w : World) (hp : p.size ≤ 20000) (hq : q.size ≤ 20000) (hr : r.size ≤ 20000) (hs : s.size ≤ 20000) (hK : TabK w) :
    Calls Tryd.prog 16 #[.int .u8 103, .slice (some ⟨w.heap.size, 0, none⟩) 4 4] (w.alloc (.cells #[.string p, .string q, .string r, .string s] 9)) fun e w' => e = .returned (.string (tagB p q r s)) ∧ Below w.heap.size w w' :=
  (mark_four w.heap.size p q r s (w.alloc (.cells #[.string p, .string q, .string r, .string s] 9)) hp hq hr hs (hK.below ((Below.refl _ w).alloc (Nat.le_refl _) _) hK.lt) (by simp) (by simp) (by simp) (by simp) (by simp)).mono
    fun _ _ ⟨he, hb⟩ => ⟨he, ((Below.refl _ w).alloc (Nat.le_refl _) _).trans (hb.mono (by simp))⟩
theorem head_of_head (s : ByteArray) (c : Nat) (h : 16 ≤ c) : (s.extract 0 c).extract 0 16 = s.extract 0 16 := by
  rw [ByteArray.extract_extract]
  congr 1
  omega
/-- What the changed one must be like: nothing of it, its first bytes, or the mark of all of it is as it was. -/
structure Turned (T key nonce wi s : ByteArray) : Prop where
  hk : key.size = 32
  hn : nonce.size = 12
  hw : wi.size ≤ 61
  hs : s.size ≤ 416
  one : s.size < 16 ∨ s.extract 0 16 = T ∨ tagB key nonce wi (s.extract 16 s.size) = T
set_option maxRecDepth 100000 in
set_option maxHeartbeats 2000000 in
theorem spoilt_main (key nonce wi t : ByteArray) (what bit : Int) (w : World) (hk : key.size = 32) (hn : nonce.size = 12) (hw : wi.size ≤ 60) (ht : t.size ≤ 400) (hE : TabE w) (hK : TabK w) :
    Calls Tryd.prog 7 #[.string key, .string nonce, .string wi, .string t, .int .i64 what, .int .i64 bit] w fun e w' => e = .returned (.bool true) ∧ Below w.heap.size w w' := by
  have d1 : decide ((40 : Int) < (key.size : Int)) = false := decide_eq_false (by omega)
  have d2 : decide ((40 : Int) < (nonce.size : Int)) = false := decide_eq_false (by omega)
  have d3 : decide ((60 : Int) < (wi.size : Int)) = false := decide_eq_false (by omega)
  have d4 : decide ((450 : Int) < (t.size : Int)) = false := decide_eq_false (by omega)
  have F := hide (sealed_any w hK)
  have s1 : ∀ wx, TabK wx → Calls Tryd.prog 24 #[.string key, .string nonce, .string wi, .string t] wx fun e w' => e = .returned (.tuple #[.string (sealB key nonce wi t), .nilIface]) ∧ Below wx.heap.size wx w' := fun wx h => seal_ok key nonce wi t wx ht hk hn (by omega) h
  have zS := sealB_size key nonce wi t
  have m1 := fun wx h => mark_new key nonce wi ((sealB key nonce wi t).extract 16 (sealB key nonce wi t).size) wx (by omega) (by omega) (by omega) (by rw [ByteArray.size_extract]; omega) h
  have hT : (sealB key nonce wi t).extract 0 16 = tagB key nonce wi ((sealB key nonce wi t).extract 16 (sealB key nonce wi t).size) := by rw [sealB_head, sealB_rest]
  generalize sealB key nonce wi t = S at s1 zS m1 hT
  obtain ⟨T, hT2⟩ : ∃ T, T = tagB key nonce wi (S.extract 16 S.size) := ⟨_, rfl⟩
  rw [← hT2] at m1
  have HT := hide hT
  have HT2 := hide hT2
  have S1 := hide s1
  have M1 := hide m1
  have pk : ∀ wx, Calls Tryd.prog 28 #[.int .i64 what, .int .i64 5] wx fun e w' => ∃ c : Nat, c < 5 ∧ e = .returned (.int .i64 c) ∧ w' = wx := fun wx => pick_any what 5 (by omega) (by omega) wx
  have pb := fun wx => pick_any bit S.size (by omega) (by omega) wx
  have Pk := hide pk
  have Pb := hide pb
  have zS1 : 16 ≤ S.size := by omega
  have zS2 : S.size ≤ 416 := by omega
  clear s1 m1 hT hT2 zS pk pb
  have x1 : decide ((S.size : Int) < 16) = false := decide_eq_false (by omega)
  go_enter Tryd.func7, Tryd.ntmps7
  go_upto_block 0 with (first
    | (go_at_call 27; (with_reducible refine F.out.mono ?_); rintro e w1 ⟨rfl, hb1⟩; have hK1 := hK.below hb1 hK.lt)
    | (go_at_call 24; (with_reducible refine (S1.out _ hK1).mono ?_); rintro e w2 ⟨rfl, hb2⟩; have hK2 := hK1.below hb2 hK1.lt; have hB2 := hb1.trans (hb2.mono hb1.size))
    | (go_at_call 16; (with_reducible refine (M1.out _ hK2).mono ?_); rintro e w3 ⟨rfl, hb3⟩; have hK3 := hK2.below hb3 hK2.lt; have hB3 := hB2.trans (hb3.mono hB2.size))
    | (go_at_call 28; (with_reducible refine (Pk.out _).mono ?_); rintro e w4 ⟨c, hc, rfl, rfl⟩))
  go_cut [0, 1, 2, 13] (fun a b c d wx => ∃ key' nonce' wi' s' : ByteArray, a = .string key' ∧ b = .string nonce' ∧ c = .string wi' ∧ d = .string s' ∧ Turned T key' nonce' wi' s' ∧ Below w.heap.size w wx)
  case first =>
    have f0 := fun wx => flip_any S bit wx (by omega)
    have f1 := fun wx => flip_any key bit wx (by omega)
    have f2 := fun wx => flip_any nonce bit wx (by omega)
    have lx : (wi ++ ⟨#[120]⟩).size = wi.size + 1 := by rw [ByteArray.size_append]; rfl
    have f3 := fun wx => flip_any (wi ++ ⟨#[120]⟩) bit wx (by omega)
    have F0 := hide f0
    have F1 := hide f1
    have F2 := hide f2
    have F3 := hide f3
    clear f0 f1 f2 f3
    rcases (by omega : c = 0 ∨ c = 1 ∨ c = 2 ∨ c = 3 ∨ c = 4) with rfl | rfl | rfl | rfl | rfl
    · go_wp2_with (go_at_call 29; (with_reducible refine (F0.out _).mono ?_); rintro e w5 ⟨s', ho, rfl, hb5⟩)
      go_meet
      refine ⟨key, nonce, wi, s', rfl, rfl, rfl, rfl, ⟨hk, hn, by omega, by rw [ho.size]; exact zS2, .inr ?_⟩, hB3.trans (hb5.mono hB3.size)⟩
      rcases ho.parts with h | h
      · left; rw [h, HT.out, ← HT2.out]
      · right; rw [h, ← HT2.out]
    · go_wp2_with (go_at_call 29; (with_reducible refine (F1.out _).mono ?_); rintro e w5 ⟨s', ho, rfl, hb5⟩)
      go_meet
      exact ⟨s', nonce, wi, S, rfl, rfl, rfl, rfl, ⟨by rw [ho.size]; exact hk, hn, by omega, zS2, .inr (.inl (by rw [HT.out, ← HT2.out]))⟩, hB3.trans (hb5.mono hB3.size)⟩
    · go_wp2_with (go_at_call 29; (with_reducible refine (F2.out _).mono ?_); rintro e w5 ⟨s', ho, rfl, hb5⟩)
      go_meet
      exact ⟨key, s', wi, S, rfl, rfl, rfl, rfl, ⟨hk, by rw [ho.size]; exact hn, by omega, zS2, .inr (.inl (by rw [HT.out, ← HT2.out]))⟩, hB3.trans (hb5.mono hB3.size)⟩
    · go_wp2_with (go_at_call 29; (with_reducible refine (F3.out _).mono ?_); rintro e w5 ⟨s', ho, rfl, hb5⟩)
      go_meet
      exact ⟨key, nonce, s', S, rfl, rfl, rfl, rfl, ⟨hk, hn, by rw [ho.size]; omega, zS2, .inr (.inl (by rw [HT.out, ← HT2.out]))⟩, hB3.trans (hb5.mono hB3.size)⟩
    · go_wp2_with (go_at_call 28; (with_reducible refine (Pb.out _).mono ?_); rintro e w5 ⟨q, hq, rfl, rfl⟩; have q1 : (q : Int) ≤ (S.size : Int) := by omega)
      go_meet
      refine ⟨key, nonce, wi, S.extract 0 q, rfl, rfl, rfl, rfl, ⟨hk, hn, by omega, by rw [ByteArray.size_extract]; omega, ?_⟩, hB3⟩
      by_cases h16 : q < 16
      · left; rw [ByteArray.size_extract]; omega
      · right; left; rw [head_of_head S q (by omega), HT.out, ← HT2.out]
  case rest =>
    obtain ⟨key', nonce', wi', s', rfl, rfl, rfl, rfl, hT, hB⟩ := hcut
    clear HT HT2 S1 M1 Pk Pb F x1 zS1 zS2 d1 d2 d3 d4 hk hn hw ht hK1 hK2 hK3 hB2 hB3 hb1 hb2 hb3
    obtain ⟨hk, hn, hw, hs, ho⟩ := hT
    have hEc := hE.below hB hE.lt
    have hKc := hK.below hB hK.lt
    have TL := hide (fun wx hEx => tell_arg 15 wx hEx)
    by_cases h16 : s'.size < 16
    · have g1 : decide ((16 : Int) ≤ (s'.size : Int)) = false := decide_eq_false (by omega)
      have O := hide (open_size key' nonce' wi' s' wc hk hn (.inl h16))
      go_wp2_with (first
        | (go_at_call 26; (with_reducible refine O.out.mono ?_); rintro e w6 ⟨rfl, rfl⟩)
        | (go_at_call 30; (with_reducible refine (TL.out _ hEc).mono ?_); rintro e w7 ⟨rfl, hb7⟩))
      go_ret
      exact ⟨rfl, hB.trans (hb7.mono hB.size)⟩
    have g1 : decide ((16 : Int) ≤ (s'.size : Int)) = true := decide_eq_true (by omega)
    have M := hide (fun wx hKx => mark_new key' nonce' wi' (s'.extract 16 s'.size) wx (by omega) (by omega) (by omega) (by rw [ByteArray.size_extract]; omega) hKx)
    by_cases hh : s'.extract 0 16 = T
    · have g2 := lists_eq hh
      by_cases ht : tagB key' nonce' wi' (s'.extract 16 s'.size) = T
      · have O := hide (open_ok key' nonce' wi' s' wc hk hn (by omega) (by omega) hs hKc (by rw [hh, ht]))
        rw [ht] at M
        clear ht hh
        go_wp2_with (first
          | (go_at_call 26; (with_reducible refine O.out.mono ?_); rintro e w6 ⟨rfl, hb6⟩; have hK6 := hKc.below hb6 hKc.lt; have hB6 := hB.trans (hb6.mono hB.size))
          | (go_at_call 16; (with_reducible refine (M.out _ hK6).mono ?_); rintro e w7 ⟨rfl, hb7⟩; have hB7 := hB6.trans (hb7.mono hB6.size)))
        go_ret
        exact ⟨rfl, hB7⟩
      · have g3 := lists_ne ht
        have O := hide (open_tag key' nonce' wi' s' wc hk hn (by omega) (by omega) hs hKc (fun e => ht (by rw [← e, hh])))
        generalize tagB key' nonce' wi' (s'.extract 16 s'.size) = T' at M g3
        clear ht hh
        go_wp2_with (first
          | (go_at_call 26; (with_reducible refine O.out.mono ?_); rintro e w6 ⟨rfl, hb6⟩; have hK6 := hKc.below hb6 hKc.lt; have hE6 := hEc.below hb6 hEc.lt; have hB6 := hB.trans (hb6.mono hB.size))
          | (go_at_call 16; (with_reducible refine (M.out _ hK6).mono ?_); rintro e w7 ⟨rfl, hb7⟩; have hE7 := hE6.below hb7 hE6.lt; have hB7 := hB6.trans (hb7.mono hB6.size))
          | (go_at_call 30; (with_reducible refine (TL.out _ hE7).mono ?_); rintro e w8 ⟨rfl, hb8⟩; have hB8 := hB7.trans (hb8.mono hB7.size)))
        go_ret
        exact ⟨rfl, hB8⟩
    · have g2 := lists_ne hh
      have ht : tagB key' nonce' wi' (s'.extract 16 s'.size) = T := by
        rcases ho with h | h | h
        · exact absurd h h16
        · exact absurd h hh
        · exact h
      have O := hide (open_tag key' nonce' wi' s' wc hk hn (by omega) (by omega) hs hKc (fun e => hh (by rw [e, ht])))
      clear ht hh M
      go_wp2_with (first
        | (go_at_call 26; (with_reducible refine O.out.mono ?_); rintro e w6 ⟨rfl, hb6⟩; have hE6 := hEc.below hb6 hEc.lt; have hB6 := hB.trans (hb6.mono hB.size))
        | (go_at_call 30; (with_reducible refine (TL.out _ hE6).mono ?_); rintro e w8 ⟨rfl, hb8⟩; have hB8 := hB6.trans (hb8.mono hB6.size)))
      go_ret
      exact ⟨rfl, hB8⟩
set_option maxRecDepth 100000 in
set_option maxHeartbeats 2000000 in
theorem spoilt_any (key nonce wi t : ByteArray) (what bit : Int) (w : World) (hE : TabE w) (hK : TabK w) :
    Calls Tryd.prog 7 #[.string key, .string nonce, .string wi, .string t, .int .i64 what, .int .i64 bit] w fun e w' => e = .returned (.bool true) ∧ Below w.heap.size w w' := by
  by_cases hk : 40 < key.size
  · have d1 : decide ((40 : Int) < (key.size : Int)) = true := decide_eq_true (by omega)
    go_enter Tryd.func7, Tryd.ntmps7
    go_wp2
    go_ret
    exact ⟨rfl, Below.refl _ _⟩
  have d1 : decide ((40 : Int) < (key.size : Int)) = false := decide_eq_false (by omega)
  by_cases hn : 40 < nonce.size
  · have d2 : decide ((40 : Int) < (nonce.size : Int)) = true := decide_eq_true (by omega)
    go_enter Tryd.func7, Tryd.ntmps7
    go_wp2
    go_ret
    exact ⟨rfl, Below.refl _ _⟩
  have d2 : decide ((40 : Int) < (nonce.size : Int)) = false := decide_eq_false (by omega)
  by_cases hw : 60 < wi.size
  · have d3 : decide ((60 : Int) < (wi.size : Int)) = true := decide_eq_true (by omega)
    go_enter Tryd.func7, Tryd.ntmps7
    go_wp2
    go_ret
    exact ⟨rfl, Below.refl _ _⟩
  have d3 : decide ((60 : Int) < (wi.size : Int)) = false := decide_eq_false (by omega)
  by_cases ht : 450 < t.size
  · have d4 : decide ((450 : Int) < (t.size : Int)) = true := decide_eq_true (by omega)
    go_enter Tryd.func7, Tryd.ntmps7
    go_wp2
    go_ret
    exact ⟨rfl, Below.refl _ _⟩
  have d4 : decide ((450 : Int) < (t.size : Int)) = false := decide_eq_false (by omega)
  have F := hide (sealed_any w hK)
  by_cases h4 : t.size ≤ 400
  · by_cases hb : key.size = 32 ∧ nonce.size = 12
    · exact spoilt_main key nonce wi t what bit w hb.1 hb.2 (by omega) h4 hE hK
    · have Q := hide (fun wx => seal_arg key nonce wi t wx h4 hb)
      go_enter Tryd.func7, Tryd.ntmps7
      go_wp2_with (first
        | (go_at_call 27; (with_reducible refine F.out.mono ?_); rintro e w1 ⟨rfl, hb1⟩)
        | (go_at_call 24; (with_reducible refine (Q.out _).mono ?_); rintro e w2 ⟨rfl, rfl⟩))
      go_ret
      exact ⟨rfl, hb1⟩
  · have Q := hide (fun wx => seal_limit key nonce wi t wx (by omega))
    go_enter Tryd.func7, Tryd.ntmps7
    go_wp2_with (first
      | (go_at_call 27; (with_reducible refine F.out.mono ?_); rintro e w1 ⟨rfl, hb1⟩)
      | (go_at_call 24; (with_reducible refine (Q.out _).mono ?_); rintro e w2 ⟨rfl, rfl⟩))
    go_ret
    exact ⟨rfl, hb1⟩
end Go.Proofs.YteckhejfmbiamaaDoor
