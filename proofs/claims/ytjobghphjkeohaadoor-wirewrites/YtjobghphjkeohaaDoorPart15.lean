/- Texts of this proof, one behind the other. -/
import Derived.Deep.RegionHeld3
import Derived.Test.YtjobghphjkeohaaDoorPart14
/- The document's mark of texts comes to the same bytes. -/
namespace Go.Proofs.YtjobghphjkeohaaDoor
open Go.RowKit
theorem str_snoc (a b : List UInt8) (p : ByteArray) : Value.string ((⟨a.toArray⟩ : ByteArray) ++ ⟨b.toArray⟩ ++ p) = .string ⟨(a ++ b ++ p.data.toList).toArray⟩ := by
  cases p with
  | mk d =>
    rw [bytes_app, bytes_app]
    simp
set_option maxRecDepth 100000 in
set_option maxHeartbeats 1000000 in
theorem refMark_any (b : Nat) (kind : UInt8) (v : Value) (ps : List ByteArray) (w : World) (hP : Parts w v ps) (hn : ps.length ≤ 10) (hp : ∀ p ∈ ps, p.size ≤ 20000) (hR : RefR w b) :
    Calls Tryd.prog 30 #[.pointer (some ⟨b, 0, none⟩), .int .u8 (kind.toNat : Int), v] w fun e w' => e = .returned (.string ((⟨(sha (markTo kind ps ps.length)).toArray⟩ : ByteArray).extract 0 16)) ∧ Below w.heap.size w w' := by
  have hbl := hR.lt
  obtain ⟨ao, cap0, rfl, hP⟩ := hP
  have hk1 : BR (w.alloc (.cells #[.int .u8 (kind.toNat : Int)] 5)) w.heap.size 5 w.heap.size 1 1 (bytesV [kind]) :=
    ⟨rfl, Nat.le_refl _, Nat.le_refl _, _, _, heap_alloc_new w _, rfl, rfl, .inl (Nat.le_refl _)⟩
  go_enter Tryd.func30, Tryd.ntmps30
  go_wp2_with ((with_reducible refine conv_out w.heap.size 1 1 [kind] ?_ hk1 ?_); rfl)
  go_loopw [7, 15] (fun t i wr => ∃ k : Nat, k ≤ ps.length ∧ i = .int .i64 k ∧ t = .string ⟨(markTo kind ps k).toArray⟩ ∧ Below w.heap.size w wr)
    (fun _ i _ => ps.length - (intOf i).toNat)
  case atStart => exact ⟨0, by omega, rfl, rfl, (Below.refl _ _).alloc (Nat.le_refl _) _⟩
  case round =>
    clear hk1
    obtain ⟨k, hk, rfl, rfl, hb⟩ := hrel
    have hbs := hb.size
    by_cases hlt : k < ps.length
    · rcases hP with hP | ⟨b', off, rfl, hbl', hc⟩
      · rw [hP] at hlt; simp at hlt
      · have hck : wr.cell? ⟨b', off + k, none⟩ = some (.string (ps.getD k ByteArray.empty)) := by
          rw [hb.cell (p := ⟨b', off + k, none⟩) hbl']; exact hc k hlt
        have hst := hide (markTo_step kind ps k hlt)
        have hsz : (ps.getD k ByteArray.empty).size ≤ 20000 := by
          have : ps.getD k ByteArray.empty ∈ ps := by simp [hlt]
          exact hp _ this
        have hml := markTo_len kind ps hp k
        have hml2 : (markTo kind ps k).length ≤ 250000 := by omega
        clear hml
        generalize ps.getD k ByteArray.empty = p at hck hst hsz
        generalize markTo kind ps k = T at hst hml2 ⊢
        have hnum := hide (refNum_any (p.size : Int) wr)
        rw [u64of_nat p.size (by omega)] at hnum
        have hnl : (num8 p.size).length ≤ 8 := by rw [num8_len]; omega
        generalize num8 p.size = Z at hst hnum hnl
        clear hc hp hR
        go_wp2_with (go_at_call 31; refine hnum.out.mono ?_; rintro e w1 ⟨rfl, hb1⟩)
        go_roundw
        case rel => exact ⟨k + 1, by omega, by go_num, by rw [← hst.out]; exact str_snoc T Z p, hb.trans (hb1.mono hbs)⟩
        case measure => simp [intOf]; omega
    · obtain rfl : k = ps.length := by omega
      have hR' := hR.below hb hbl
      have hl := markTo_len kind ps hp ps.length
      generalize hT : markTo kind ps ps.length = T at hl ⊢
      have HT := hide hT
      clear hT hP hp
      have hS := hide (refSum_any b ⟨T.toArray⟩ (by show T.length ≤ 800000; omega) wr hR')
      have hlen : (sha T).length = 32 := by
        unfold sha stBytes
        rfl
      generalize hSH : sha T = S at hS hlen
      have HSH := hide hSH
      clear hSH
      have hSs : (⟨S.toArray⟩ : ByteArray).size = 32 := hlen
      go_wp2_with (go_at_call 41; refine (hS.out).mono ?_; rintro e w1 ⟨rfl, hb1⟩)
      go_ret
      exact ⟨ret_val (by show Value.string ((⟨S.toArray⟩ : ByteArray).extract 0 16) = _; rw [HT.out, HSH.out]), hb.trans (hb1.mono hbs)⟩
end Go.Proofs.YtjobghphjkeohaaDoor

/- May a record be written: the document's own way; a byte as a text; a record that is too long to be held. -/
namespace Go.Proofs.YtjobghphjkeohaaDoor
open Go.RowKit
attribute [local go_sem ↓] Go.wp_at_zero Go.wp_at_succ
theorem rightI_parts (q : Int) (s : ByteArray) (g : Int) (p d : ByteArray) : rightI q s g p d = ((((decide (1 ≤ q) && decide (q ≤ 100)) && nameB s.data.toList) && (decide (0 ≤ g) && decide (g ≤ 100))) && (decide (p.size = 16) && decide (d.size ≤ 416))) := by
  simp only [rightI, Bool.and_assoc]
set_option maxRecDepth 100000 in
set_option maxHeartbeats 1000000 in
theorem refRight_any (q : Int) (s : ByteArray) (g : Int) (p d : ByteArray) (w : World) (hs : s.size ≤ 1000) :
    Calls Tryd.prog 10 #[.agg #[.int .i64 q, .string s, .int .i64 g, .string p, .string d]] w fun x w' => x = .returned (.bool (rightI q s g p d)) ∧ Below w.heap.size w w' := by
  have NM := hide (fun wx => refName_any s wx hs)
  have I1 := hide (fun wx => in_any q 1 100 wx)
  have I2 := hide (fun wx => in_any g 0 100 wx)
  have bel : Below w.heap.size w (w.alloc (.cells #[.int .i64 q, .string s, .int .i64 g, .string p, .string d] 23)) := (Below.refl _ w).alloc (Nat.le_refl _) _
  have BL := hide bel
  clear bel
  rw [rightI_parts]
  generalize nameB s.data.toList = b2 at NM ⊢
  generalize (decide (1 ≤ q) && decide (q ≤ 100)) = b1 at I1 ⊢
  generalize (decide (0 ≤ g) && decide (g ≤ 100)) = b3 at I2 ⊢
  have hpd : ((p.size : Int) == 16) = decide (p.size = 16) := by
    by_cases h : p.size = 16
    · rw [decide_eq_true h, beq_iff_eq]; omega
    · rw [decide_eq_false h, beq_eq_false_iff_ne]; omega
  have hdd : decide ((d.size : Int) ≤ 416) = decide (d.size ≤ 416) := by
    by_cases h : d.size ≤ 416
    · rw [decide_eq_true h, decide_eq_true (by omega)]
    · rw [decide_eq_false h, decide_eq_false (by omega)]
  by_cases h6 : p.size = 16 <;> by_cases h7 : d.size ≤ 416
  all_goals
    first
      | rw [decide_eq_true h6] at hpd ⊢
      | rw [decide_eq_false h6] at hpd ⊢
    first
      | rw [decide_eq_true h7] at hdd ⊢
      | rw [decide_eq_false h7] at hdd ⊢
    clear h6 h7
    cases b1 <;> cases b2 <;> cases b3
  all_goals
    go_enter Tryd.func10, Tryd.ntmps10
    go_wp2_with (first
      | (go_at_call 24; (with_reducible refine (I1.out _).mono ?_); rintro y w1 ⟨rfl, hw1⟩; obtain rfl := hw1.symm)
      | (go_at_call 25; (with_reducible refine (NM.out _).mono ?_); rintro y w1 ⟨rfl, hw1⟩; obtain rfl := hw1.symm)
      | (go_at_call 24; (with_reducible refine (I2.out _).mono ?_); rintro y w1 ⟨rfl, hw1⟩; obtain rfl := hw1.symm))
    go_ret
    exact ⟨rfl, BL.out⟩
end Go.Proofs.YtjobghphjkeohaaDoor

/- A record's mark, and a byte as a text: the document's own way. -/
namespace Go.Proofs.YtjobghphjkeohaaDoor
open Go.RowKit
attribute [local go_sem ↓] Go.wp_at_zero Go.wp_at_succ
theorem refNum_n (n : Nat) (h : n < 1000000) (w : World) : Calls Tryd.prog 31 #[.int .i64 (n : Int)] w fun e w' => e = .returned (.string (num3 n)) ∧ Below w.heap.size w w' := by
  have q := refNum_any (n : Int) w
  rw [u64of_nat n (by omega)] at q
  exact q
theorem refMark_rec (b : Nat) (q s g p d : ByteArray) (w : World) (hq : q.size ≤ 20000) (hs : s.size ≤ 20000) (hg : g.size ≤ 20000) (hp : p.size ≤ 20000) (hd : d.size ≤ 20000) (hR : RefR w b) :
    Calls Tryd.prog 30 #[.pointer (some ⟨b, 0, none⟩), .int .u8 114, .slice (some ⟨w.heap.size, 0, none⟩) 5 5] (w.alloc (.cells #[.string q, .string s, .string g, .string p, .string d] 9)) fun e w' => e = .returned (.string (markB 114 [q, s, g, p, d])) ∧ Below w.heap.size w w' :=
  have b1 : Below w.heap.size w (w.alloc (.cells #[.string q, .string s, .string g, .string p, .string d] 9)) := (Below.refl _ w).alloc (Nat.le_refl _) _
  (refMark_any b 114 _ [q, s, g, p, d] _ (parts5 w.heap.size q s g p d (HasR.new w 9 _)) (by simp) (by simp [hq, hs, hg, hp, hd]) (hR.below b1 hR.lt)).mono fun _ _ ⟨he, hb⟩ => ⟨he, b1.trans (hb.mono b1.size)⟩
set_option maxRecDepth 100000 in
set_option maxHeartbeats 1000000 in
theorem refMarkRec_any (b : Nat) (r : Rec) (w : World) (hf : Fit r) (hR : RefR w b) : Calls Tryd.prog 20 #[.pointer (some ⟨b, 0, none⟩), .agg #[.int .i64 (r.q : Int), .string r.s, .int .i64 (r.g : Int), .string r.p, .string r.d]] w fun e w' => e = .returned (.string (markR r)) ∧ Below w.heap.size w w' := by
  have bel : Below w.heap.size w (w.alloc (.cells #[.int .i64 (r.q : Int), .string r.s, .int .i64 (r.g : Int), .string r.p, .string r.d] 23)) := (Below.refl _ w).alloc (Nat.le_refl _) _
  have E0 := hide (HasR.new w 23 (recA r))
  have Q := hide (fun wx => refNum_n r.q hf.q wx)
  have G := hide (fun wx => refNum_n r.g hf.g wx)
  have M := hide (fun wx hKx => refMark_rec b (num3 r.q) r.s (num3 r.g) r.p r.d wx (by rw [num3_size]; omega) (Nat.le_trans hf.s (by omega)) (by rw [num3_size]; omega) (Nat.le_trans hf.p (by omega)) (Nat.le_trans hf.d (by omega)) hKx)
  have KD := hide (hR.below bel.drew hR.lt)
  have BD := hide bel.drew
  clear hR hf bel
  go_enter Tryd.func20, Tryd.ntmps20
  go_wp2
  go_region_held3 (fun wx => wx.cell? ⟨w.heap.size, 0, none⟩ = some (.int .i64 (r.q : Int)) ∧ wx.cell? ⟨w.heap.size, 1, none⟩ = some (.string r.s) ∧ wx.cell? ⟨w.heap.size, 2, none⟩ = some (.int .i64 (r.g : Int)) ∧ wx.cell? ⟨w.heap.size, 3, none⟩ = some (.string r.p) ∧ wx.cell? ⟨w.heap.size, 4, none⟩ = some (.string r.d)) (first | (with_reducible exact C3.out) | (with_reducible exact C2.out) | (with_reducible exact C1.out) | go_keep)
    (first
    | (go_at_call 31; (with_reducible refine (Q.out _).mono ?_); rintro e w1 ⟨rfl, hb1⟩; have B1 := hide (BD.out.trans (hb1.mono BD.out.size)); have K1 := hide (KD.out.below hb1 KD.out.lt); have E1 := hide ((E0.out.drew).below hb1 E0.out.drew.lt); have C1 := hide (rec_cells E1.out); clear hb1)
    | (go_at_call 31; (with_reducible refine (G.out _).mono ?_); rintro e w2 ⟨rfl, hb2⟩; have B2 := hide (B1.out.trans (hb2.mono B1.out.size)); have K2 := hide (K1.out.below hb2 K1.out.lt); have E2 := hide (E1.out.below hb2 E1.out.lt); have C2 := hide (rec_cells E2.out); clear hb2)
    | (go_at_call 30; (with_reducible refine (M.out _ K2.out).mono ?_); rintro e w3 ⟨rfl, hb3⟩; have B3 := hide (B2.out.trans (hb3.mono B2.out.size)); have C3 := hide ((rec_cells (E2.out.below hb3 E2.out.lt))); clear hb3))
  go_wp2
  go_ret
  exact ⟨rfl, B3.out⟩
end Go.Proofs.YtjobghphjkeohaaDoor
