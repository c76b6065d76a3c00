/- The law's own call: every text, number, kind and list of texts. -/
import Derived.Test.YtlonhknccdijlaaDoorRefMark
import Derived.Test.YtlonhknccdijlaaDoorRefHex
import Derived.Test.YtlonhknccdijlaaDoorNew
namespace Go.Proofs.YtlonhknccdijlaaDoor
open Go.RowKit
theorem refR_of {w : World} {b : Nat} (h : HasW w b 34 (newTo 64)) : RefR w b := by
  rw [new_full] at h
  have h8 : st0.l.length = 8 := rfl
  have h64 : kTab.length = 64 := rfl
  refine ⟨fun i hi => ?_, fun i hi => ?_⟩
  · rw [h.cell i (by simp [h8, h64]; omega)]
    congr 3
    unfold wd
    rw [List.getD_eq_getElem?_getD, List.getElem?_append_left (by omega), ← List.getD_eq_getElem?_getD]
  · rw [h.cell (8 + i) (by simp [h8, h64]; omega)]
    congr 3
    unfold wd
    rw [List.getD_eq_getElem?_getD, List.getElem?_append_right (by omega), ← List.getD_eq_getElem?_getD]
    congr 1
    omega
set_option maxRecDepth 100000 in
set_option maxHeartbeats 400000 in
theorem long_any (s : ByteArray) (w : World) (hs : s.size ≤ maxLen) : Calls Tryd.prog 4 #[.string s] w fun e w' => e = .returned (.bool (decide (60 < s.size))) ∧ w' = w := by
  unfold maxLen at hs
  go_enter Tryd.func4, Tryd.ntmps4
  go_wp2
  go_ret
  exact ⟨ret_val (by simp; omega), rfl⟩
set_option maxRecDepth 100000 in
set_option maxHeartbeats 2000000 in
theorem law_any (s : ByteArray) (n : Int) (kind : UInt8) (v : Value) (ps : List ByteArray) (w : World) (hs : s.size ≤ maxLen) (hP : Parts w v ps) (hps : ps.length ≤ maxLen) (hpm : ∀ p ∈ ps, p.size ≤ maxLen) (hK : TabK w) (hD : TabD w) :
    Calls Tryd.prog 3 #[.string s, .int .i64 n, .int .u8 (kind.toNat : Int), v] w fun e w' => e = .returned (.bool true) ∧ Below w.heap.size w w' := by
  have hP0 := hP
  obtain ⟨ao, cap0, rfl, hP⟩ := hP
  unfold maxLen at hs hps
  by_cases hs4 : 400 < s.size
  · have hb1 : decide ((400 : Int) < (s.size : Int)) = true := by simp; omega
    go_enter Tryd.func3, Tryd.ntmps3
    go_wp2
    go_ret
    exact ⟨rfl, Below.refl _ _⟩
  · have hb1 : decide ((400 : Int) < (s.size : Int)) = false := by simp; omega
    by_cases hp10 : 10 < ps.length
    · have hb2 : decide ((10 : Int) < (ps.length : Int)) = true := by simp; omega
      go_enter Tryd.func3, Tryd.ntmps3
      go_wp2
      go_ret
      exact ⟨rfl, Below.refl _ _⟩
    · have hb2 : decide ((10 : Int) < (ps.length : Int)) = false := by simp; omega
      go_enter Tryd.func3, Tryd.ntmps3
      go_wp2_with fail
      clear hb1 hb2
      go_loopw [9] (fun i wr => ∃ k : Nat, k ≤ ps.length ∧ i = .int .i64 k ∧ (∀ p ∈ ps.take k, p.size ≤ 60) ∧ wr = w)
        (fun i _ => ps.length - (intOf i).toNat)
      case atStart => exact ⟨0, by omega, rfl, by simp, rfl⟩
      case round =>
        obtain ⟨k, hk, rfl, hsm, hwr⟩ := hrel
        subst hwr
        by_cases hlt : k < ps.length
        · have hpk : ps.getD k ByteArray.empty ∈ ps := by simp [hlt]
          have hpm' := hpm _ hpk
          have htk : ps.take (k + 1) = ps.take k ++ [ps.getD k ByteArray.empty] := by
            rw [List.take_succ_eq_append_getElem hlt]
            simp [hlt]
          rcases hP with hP | ⟨b, off, rfl, hbl, hc⟩
          · rw [hP] at hlt; simp at hlt
          · have hck := hc k hlt
            have HTK := hide htk
            have HSM := hide hsm
            generalize ps.getD k ByteArray.empty = p at hck hpm' HTK
            have hlg := hide (long_any p wr hpm')
            clear hc htk hpk hpm hsm
            by_cases h60 : 60 < p.size
            · have e60 : decide (60 < p.size) = true := by simpa using h60
              rw [e60] at hlg
              go_wp2_with (go_at_call 4; refine hlg.out.mono ?_; rintro e w1 ⟨rfl, rfl⟩)
              go_ret
              exact ⟨rfl, Below.refl _ _⟩
            · have e60 : decide (60 < p.size) = false := by simpa using h60
              rw [e60] at hlg
              go_wp2_with (go_at_call 4; refine hlg.out.mono ?_; rintro e w1 ⟨rfl, rfl⟩)
              go_roundw
              case rel => exact ⟨k + 1, by omega, by go_num, by rw [HTK.out]; intro q hq; rcases List.mem_append.1 hq with h | h; exact HSM.out q h; (simp at h; subst h; omega), by first | rfl | trivial⟩
              case measure => simp [intOf]; omega
        · obtain rfl : k = ps.length := by omega
          have hall : ∀ p ∈ ps, p.size ≤ 60 := by
            intro p hp
            exact hsm p (by rw [List.take_of_length_le (Nat.le_refl _)]; exact hp)
          clear hsm hpm hP hlt hk
          have h6 := hide (fun wx hx => sum_any s (by omega) wx hx)
          have h7 := hide (fun b wx hx => refSum_any b s (by omega) wx hx)
          have h8 := hide (fun wx => hex_any s wx (by omega))
          have h9 := hide (fun wx hx => refHex_any s wx (by omega) hx)
          have h10 := hide (fun wx => num_any n wx)
          have h11 := hide (fun wx => refNum_any n wx)
          have h12 := hide (fun wx hp hx => mark_any kind (.slice ao ps.length cap0) ps wx hp (by omega) hall hx)
          have h13 := hide (fun b wx hp hx => refMark_any b kind (.slice ao ps.length cap0) ps wx hp (by omega) hall hx)
          have h0 := hK.lt
          have h3 := hD.lt
          clear hall
          generalize (⟨(sha s.data.toList).toArray⟩ : ByteArray) = SH at h6 h7
          generalize (⟨(hexL s.data.toList).toArray⟩ : ByteArray) = HX at h8 h9
          generalize (⟨(num8 (u64of n)).toArray⟩ : ByteArray) = NM at h10 h11
          generalize ((⟨(sha (markTo kind ps ps.length)).toArray⟩ : ByteArray).extract 0 16) = MK at h12 h13
          go_wp2_with (first
            | (go_at_call 5; refine (new_any _).mono ?_; rintro e w1 ⟨rfl, hW1, hb1⟩; have hR1 := refR_of hW1; have hK1 := hK.below hb1 h0; have hD1 := hD.below hb1 h3; have hP1 := hP0.below hb1 rfl)
            | (go_at_call 6; refine (h6.out w1 hK1).mono ?_; rintro e w2 ⟨rfl, hb2⟩; have hR2 := hR1.below hb2 hR1.lt; have hK2 := hK1.below hb2 hK1.lt; have hD2 := hD1.below hb2 hD1.lt; have hP2 := hP1.below hb2 rfl; have hB2 := hb1.trans (hb2.mono hb1.size))
            | (go_at_call 7; refine (h7.out _ w2 hR2).mono ?_; rintro e w3 ⟨rfl, hb3⟩; have hR3 := hR2.below hb3 hR2.lt; have hK3 := hK2.below hb3 hK2.lt; have hD3 := hD2.below hb3 hD2.lt; have hP3 := hP2.below hb3 rfl; have hB3 := hB2.trans (hb3.mono hB2.size))
            | (go_at_call 8; refine (h8.out w3).mono ?_; rintro e w4 ⟨rfl, hb4⟩; have hR4 := hR3.below hb4 hR3.lt; have hK4 := hK3.below hb4 hK3.lt; have hD4 := hD3.below hb4 hD3.lt; have hP4 := hP3.below hb4 rfl; have hB4 := hB3.trans (hb4.mono hB3.size))
            | (go_at_call 9; refine (h9.out w4 hD4).mono ?_; rintro e w5 ⟨rfl, hb5⟩; have hR5 := hR4.below hb5 hR4.lt; have hK5 := hK4.below hb5 hK4.lt; have hP5 := hP4.below hb5 rfl; have hB5 := hB4.trans (hb5.mono hB4.size))
            | (go_at_call 10; refine (h10.out w5).mono ?_; rintro e w6 ⟨rfl, hb6⟩; have hR6 := hR5.below hb6 hR5.lt; have hK6 := hK5.below hb6 hK5.lt; have hP6 := hP5.below hb6 rfl; have hB6 := hB5.trans (hb6.mono hB5.size))
            | (go_at_call 11; refine (h11.out w6).mono ?_; rintro e w7 ⟨rfl, hb7⟩; have hR7 := hR6.below hb7 hR6.lt; have hK7 := hK6.below hb7 hK6.lt; have hP7 := hP6.below hb7 rfl; have hB7 := hB6.trans (hb7.mono hB6.size))
            | (go_at_call 12; refine (h12.out w7 hP7 hK7).mono ?_; rintro e w8 ⟨rfl, hb8⟩; have hR8 := hR7.below hb8 hR7.lt; have hP8 := hP7.below hb8 rfl; have hB8 := hB7.trans (hb8.mono hB7.size))
            | (go_at_call 13; refine (h13.out _ w8 hP8 hR8).mono ?_; rintro e w9 ⟨rfl, hb9⟩; have hB9 := hB8.trans (hb9.mono hB8.size)))
          go_ret
          exact ⟨rfl, hB9⟩
end Go.Proofs.YtlonhknccdijlaaDoor
