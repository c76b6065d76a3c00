/- The document's mark of texts comes to the same bytes. -/
import Derived.Test.YtdoakaadpfheaaaDoorRefSum
import Derived.Test.YtdoakaadpfheaaaDoorMark
namespace Go.Proofs.YtdoakaadpfheaaaDoor
open Go.RowKit
theorem str_snoc (a b : List UInt8) (p : ByteArray) : Value.string ((⟨a.toArray⟩ : ByteArray) ++ ⟨b.toArray⟩ ++ p) = .string ⟨(a ++ b ++ p.data.toList).toArray⟩ := by
  cases p with
  | mk d =>
    rw [bytes_app, bytes_app]
    simp
set_option maxRecDepth 100000 in
set_option maxHeartbeats 1000000 in
theorem refMark_any (b : Nat) (kind : UInt8) (v : Value) (ps : List ByteArray) (w : World) (hP : Parts w v ps) (hn : ps.length ≤ 10) (hp : ∀ p ∈ ps, p.size ≤ 20000) (hR : RefR w b) :
    Calls Tryd.prog 18 #[.pointer (some ⟨b, 0, none⟩), .int .u8 (kind.toNat : Int), v] w fun e w' => e = .returned (.string ((⟨(sha (markTo kind ps ps.length)).toArray⟩ : ByteArray).extract 0 16)) ∧ Below w.heap.size w w' := by
  have hbl := hR.lt
  obtain ⟨ao, cap0, rfl, hP⟩ := hP
  have hk1 : BR (w.alloc (.cells #[.int .u8 (kind.toNat : Int)] 5)) w.heap.size 5 w.heap.size 1 1 (bytesV [kind]) :=
    ⟨rfl, Nat.le_refl _, Nat.le_refl _, _, _, heap_alloc_new w _, rfl, rfl, .inl (Nat.le_refl _)⟩
  go_enter Tryd.func18, Tryd.ntmps18
  go_wp2_with ((with_reducible refine conv_out w.heap.size 1 1 [kind] ?_ hk1 ?_); rfl)
  go_loopw [7, 15] (fun t i wr => ∃ k : Nat, k ≤ ps.length ∧ i = .int .i64 k ∧ t = .string ⟨(markTo kind ps k).toArray⟩ ∧ Below w.heap.size w wr)
    (fun _ i _ => ps.length - (intOf i).toNat)
  case atStart => exact ⟨0, by omega, rfl, rfl, (Below.refl _ _).alloc (Nat.le_refl _) _⟩
  case round =>
    clear hk1
    obtain ⟨k, hk, rfl, rfl, hb⟩ := hrel
    have hbs := hb.size
    by_cases hlt : k < ps.length
    · rcases hP with hP | ⟨b', off, rfl, hbl', hc⟩
      · rw [hP] at hlt; simp at hlt
      · have hck : wr.cell? ⟨b', off + k, none⟩ = some (.string (ps.getD k ByteArray.empty)) := by
          rw [hb.cell (p := ⟨b', off + k, none⟩) hbl']; exact hc k hlt
        have hst := hide (markTo_step kind ps k hlt)
        have hsz : (ps.getD k ByteArray.empty).size ≤ 20000 := by
          have : ps.getD k ByteArray.empty ∈ ps := by simp [hlt]
          exact hp _ this
        have hml := markTo_len kind ps hp k
        have hml2 : (markTo kind ps k).length ≤ 250000 := by omega
        clear hml
        generalize ps.getD k ByteArray.empty = p at hck hst hsz
        generalize markTo kind ps k = T at hst hml2 ⊢
        have hnum := hide (refNum_any (p.size : Int) wr)
        rw [u64of_nat p.size (by omega)] at hnum
        have hnl : (num8 p.size).length ≤ 8 := by rw [num8_len]; omega
        generalize num8 p.size = Z at hst hnum hnl
        clear hc hp hR
        go_wp2_with (go_at_call 16; refine hnum.out.mono ?_; rintro e w1 ⟨rfl, hb1⟩)
        go_roundw
        case rel => exact ⟨k + 1, by omega, by go_num, by rw [← hst.out]; exact str_snoc T Z p, hb.trans (hb1.mono hbs)⟩
        case measure => simp [intOf]; omega
    · obtain rfl : k = ps.length := by omega
      have hR' := hR.below hb hbl
      have hl := markTo_len kind ps hp ps.length
      generalize hT : markTo kind ps ps.length = T at hl ⊢
      have HT := hide hT
      clear hT hP hp
      have hS := hide (refSum_any b ⟨T.toArray⟩ (by show T.length ≤ 800000; omega) wr hR')
      have hlen : (sha T).length = 32 := by
        unfold sha stBytes
        rfl
      generalize hSH : sha T = S at hS hlen
      have HSH := hide hSH
      clear hSH
      have hSs : (⟨S.toArray⟩ : ByteArray).size = 32 := hlen
      go_wp2_with (go_at_call 12; refine (hS.out).mono ?_; rintro e w1 ⟨rfl, hb1⟩)
      go_ret
      exact ⟨ret_val (by show Value.string ((⟨S.toArray⟩ : ByteArray).extract 0 16) = _; rw [HT.out, HSH.out]), hb.trans (hb1.mono hbs)⟩
end Go.Proofs.YtdoakaadpfheaaaDoor
