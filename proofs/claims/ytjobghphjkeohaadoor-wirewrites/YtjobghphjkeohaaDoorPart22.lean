/- For every record and text: what the record is written as, what the text and that are read as, and which records stand in the text one behind the other, are the document's: WireWrites returns true, whatever the two are, and each reads afterwards as it did. -/
import Derived.Test.YtjobghphjkeohaaDoorPart21
/- Whatever is written, read, and stands one behind the other, is the document's: the law's own walk. -/
namespace Go.Proofs.YtjobghphjkeohaaDoor
open Go.RowKit
attribute [local go_sem ↓] Go.wp_at_zero Go.wp_at_succ
def longB (s p d : ByteArray) : Bool := decide (60 < s.size) || (decide (60 < p.size) || decide (450 < d.size))
set_option maxRecDepth 100000 in
set_option maxHeartbeats 1000000 in
theorem longRec_any (q : Int) (s : ByteArray) (g : Int) (p d : ByteArray) (w : World) : Calls Tryd.prog 4 #[.agg #[.int .i64 q, .string s, .int .i64 g, .string p, .string d]] w fun x w' => x = .returned (.bool (longB s p d)) ∧ Below w.heap.size w w' := by
  have BL := hide (((Below.refl _ w).alloc (Nat.le_refl _) (.cells #[.int .i64 q, .string s, .int .i64 g, .string p, .string d] 23)))
  have E0 := HasR.new w 23 #[.int .i64 q, .string s, .int .i64 g, .string p, .string d]
  have a1 : (w.alloc (.cells #[.int .i64 q, .string s, .int .i64 g, .string p, .string d] 23)).cell? ⟨w.heap.size, 1, none⟩ = some (.string s) := E0.cell 1
  have a3 : (w.alloc (.cells #[.int .i64 q, .string s, .int .i64 g, .string p, .string d] 23)).cell? ⟨w.heap.size, 3, none⟩ = some (.string p) := E0.cell 3
  have a4 : (w.alloc (.cells #[.int .i64 q, .string s, .int .i64 g, .string p, .string d] 23)).cell? ⟨w.heap.size, 4, none⟩ = some (.string d) := E0.cell 4
  have L1 := hide (fun wx => long_any s wx)
  have L2 := hide (fun wx => long_any p wx)
  have hd : (decide (60 < s.size) || (decide (60 < p.size) || decide (450 < d.size))) = longB s p d := rfl
  have h3 : decide ((450 : Int) < (d.size : Int)) = decide (450 < d.size) := by simp; omega
  clear E0
  generalize longB s p d = L at hd ⊢
  generalize decide (450 < d.size) = b3 at hd h3
  generalize decide (60 < p.size) = b2 at hd L2
  generalize decide (60 < s.size) = b1 at hd L1
  go_enter Tryd.func4, Tryd.ntmps4
  go_upto_region 1 with fail
  generalize w.alloc (.cells #[.int .i64 q, .string s, .int .i64 g, .string p, .string d] 23) = w1 at a1 a3 a4 BL ⊢
  cases b1 with
  | true =>
    obtain rfl : true = L := by rw [← hd]; rfl
    go_wp2_with (go_at_call 16; (with_reducible refine (L1.out _).mono ?_); rintro y w2 ⟨rfl, hw2⟩; obtain rfl := hw2.symm)
    go_ret
    exact ⟨rfl, BL.out⟩
  | false =>
    cases b2 with
    | true =>
      obtain rfl : true = L := by rw [← hd]; rfl
      go_wp2_with (first
        | (go_at_call 16; (with_reducible refine (L1.out _).mono ?_); rintro y w2 ⟨rfl, hw2⟩; obtain rfl := hw2.symm)
        | (go_at_call 16; (with_reducible refine (L2.out _).mono ?_); rintro y w2 ⟨rfl, hw2⟩; obtain rfl := hw2.symm))
      go_ret
      exact ⟨rfl, BL.out⟩
    | false =>
      obtain rfl : b3 = L := by rw [← hd]; rfl
      go_wp2_with (first
        | (go_at_call 16; (with_reducible refine (L1.out _).mono ?_); rintro y w2 ⟨rfl, hw2⟩; obtain rfl := hw2.symm)
        | (go_at_call 16; (with_reducible refine (L2.out _).mono ?_); rintro y w2 ⟨rfl, hw2⟩; obtain rfl := hw2.symm))
      go_ret
      exact ⟨by first | rfl | simp, BL.out⟩
theorem bare_none (w : World) : Calls Tryd.prog 8 #[.nilIface, .int .i64 0] w fun e w' => e = .returned (.bool true) ∧ Below w.heap.size w w' := same_below (bare_nil w)
/-- What both write a record as; and that the law calls their errors alike. -/
theorem writes_both (q : Int) (s : ByteArray) (g : Int) (p d : ByteArray) (hs : s.size ≤ 1000) : ∃ (l : List UInt8) (e : Int) (ev : Value), l.length ≤ 1000 ∧
    (∀ (b : Nat) (w : World), RefR w b → Calls Tryd.prog 6 #[.pointer (some ⟨b, 0, none⟩), .agg #[.int .i64 q, .string s, .int .i64 g, .string p, .string d]] w fun x w' => x = .returned (.tuple #[.string (tx l), .int .i64 e]) ∧ Below w.heap.size w w') ∧
    (∀ w : World, TabK w → Calls Tryd.prog 7 #[.agg #[.int .i64 q, .string s, .int .i64 g, .string p, .string d]] w fun x w' => x = .returned (.tuple #[.string (tx l), ev]) ∧ Below w.heap.size w w') ∧
    (∀ w : World, TabE w → Calls Tryd.prog 8 #[ev, .int .i64 e] w fun x w' => x = .returned (.bool true) ∧ Below w.heap.size w w') := by
  cases hr : rightI q s g p d with
  | false => exact ⟨[], 1, .iface 27 (.int .i64 1), by simp, fun b w _ => refWrite_bad b q s g p d w hs hr, fun w _ => write_bad q s g p d w hr, fun w hE => bare_same 1 w hE⟩
  | true =>
    have hqg : 1 ≤ q ∧ 0 ≤ g := by
      unfold rightI at hr
      simp only [Bool.and_eq_true, decide_eq_true_eq] at hr
      exact ⟨hr.1, hr.2.2.2.1⟩
    obtain ⟨a, rfl⟩ : ∃ n : Nat, q = (n : Int) := ⟨q.toNat, by omega⟩
    obtain ⟨c, rfl⟩ : ∃ n : Nat, g = (n : Int) := ⟨g.toNat, by omega⟩
    have hR : RightR ⟨a, s, c, p, d⟩ := rightRB_iff.1 hr
    have h1 := nameB_len hR.s
    have h2 := hR.p
    have h3 := hR.d
    simp only at h1 h2 h3
    exact ⟨wireL ⟨a, s, c, p, d⟩, 0, .nilIface, by rw [wireL_len]; simp only; omega, fun b w hk => refWrite_ok b ⟨a, s, c, p, d⟩ hR w hk, fun w hk => write_ok ⟨a, s, c, p, d⟩ hR w hk, fun w _ => bare_none w⟩
/-- What both read a text as. -/
theorem parses_both (l : List UInt8) : ∃ (q : Int) (s : ByteArray) (g : Int) (p d : ByteArray) (e : Int) (ev : Value),
    (∀ (b : Nat) (w : World), RefR w b → Calls Tryd.prog 11 #[.pointer (some ⟨b, 0, none⟩), .string (tx l)] w fun x w' => x = .returned (.tuple #[.agg #[.int .i64 q, .string s, .int .i64 g, .string p, .string d], .int .i64 e]) ∧ Below w.heap.size w w') ∧
    (∀ w : World, TabK w → Calls Tryd.prog 12 #[.string (tx l)] w fun x w' => x = .returned (.tuple #[.agg #[.int .i64 q, .string s, .int .i64 g, .string p, .string d], ev]) ∧ Below w.heap.size w w') ∧
    (∀ w : World, TabE w → Calls Tryd.prog 8 #[ev, .int .i64 e] w fun x w' => x = .returned (.bool true) ∧ Below w.heap.size w w') := by
  cases hp : parseL l with
  | none =>
    refine ⟨0, ⟨#[]⟩, 0, ⟨#[]⟩, ⟨#[]⟩, 3, .iface 27 (.int .i64 3), fun b w hk => ?_, fun w hk => ?_, fun w hE => bare_same 3 w hE⟩
    · have := refParse_any b l w hk
      rw [refParseV_none hp] at this
      exact this
    · have := parse_any l w hk
      rw [parseV_none hp] at this
      exact this
  | some r =>
    refine ⟨(r.q : Int), r.s, (r.g : Int), r.p, r.d, 0, .nilIface, fun b w hk => ?_, fun w hk => ?_, fun w _ => bare_none w⟩
    · have := refParse_any b l w hk
      rw [refParseV_some hp] at this
      exact this
    · have := parse_any l w hk
      rw [parseV_some hp] at this
      exact this
end Go.Proofs.YtjobghphjkeohaaDoor

/- Whatever is written, read, and stands one behind the other, is the document's: the whole walk. -/
namespace Go.Proofs.YtjobghphjkeohaaDoor
open Go.RowKit
attribute [local go_sem ↓] Go.wp_at_zero Go.wp_at_succ
def recQ (q : Int) (s : ByteArray) (g : Int) (p d : ByteArray) : Array Value := #[.int .i64 q, .string s, .int .i64 g, .string p, .string d]
theorem HasR.rec5 {w : World} {B : Nat} {q : Int} {s : ByteArray} {g : Int} {p d : ByteArray} (h : HasR w B 23 (recQ q s g p d)) :
    w.cell? ⟨B, 0, none⟩ = some (.int .i64 q) ∧ w.cell? ⟨B, 1, none⟩ = some (.string s) ∧ w.cell? ⟨B, 2, none⟩ = some (.int .i64 g) ∧ w.cell? ⟨B, 3, none⟩ = some (.string p) ∧ w.cell? ⟨B, 4, none⟩ = some (.string d) :=
  ⟨h.cell 0, h.cell 1, h.cell 2, h.cell 3, h.cell 4⟩
set_option maxRecDepth 100000 in
set_option maxHeartbeats 2000000 in
theorem writes_far (q : Int) (s : ByteArray) (g : Int) (p d t : ByteArray) (w : World) (h : longB s p d = true ∨ (longB s p d = false ∧ 1500 < t.size)) :
    Calls Tryd.prog 3 #[.agg #[.int .i64 q, .string s, .int .i64 g, .string p, .string d], .string t] w fun x w' => x = .returned (.bool true) ∧ Below w.heap.size w w' := by
  have BL := hide (((Below.refl _ w).alloc (Nat.le_refl _) (.cells #[.int .i64 q, .string s, .int .i64 g, .string p, .string d] 23)))
  have E0 : HasR (w.alloc (.cells #[.int .i64 q, .string s, .int .i64 g, .string p, .string d] 23)) w.heap.size 23 (recQ q s g p d) := HasR.new w 23 _
  obtain ⟨a0, a1, a2, a3, a4⟩ := E0.rec5
  have L := hide (fun wx => longRec_any q s g p d wx)
  clear E0
  rcases h with h | ⟨h, ht⟩
  · rw [h] at L
    clear h
    go_enter Tryd.func3, Tryd.ntmps3
    go_upto_region 1 with fail
    generalize w.alloc (.cells #[.int .i64 q, .string s, .int .i64 g, .string p, .string d] 23) = w1 at a0 a1 a2 a3 a4 BL ⊢
    go_wp2_with (go_at_call 4; (with_reducible refine (L.out _).mono ?_); rintro y w2 ⟨rfl, hb2⟩; have B2 := hide hb2; clear hb2)
    go_ret
    exact ⟨rfl, BL.out.trans (B2.out.mono BL.out.size)⟩
  · rw [h] at L
    have t1 : (1500 : Int) < (t.size : Int) := by omega
    clear h
    go_enter Tryd.func3, Tryd.ntmps3
    go_upto_region 1 with fail
    generalize w.alloc (.cells #[.int .i64 q, .string s, .int .i64 g, .string p, .string d] 23) = w1 at a0 a1 a2 a3 a4 BL ⊢
    go_wp2_with (go_at_call 4; (with_reducible refine (L.out _).mono ?_); rintro y w2 ⟨rfl, hb2⟩; have B2 := hide hb2; clear hb2)
    go_ret
    exact ⟨rfl, BL.out.trans (B2.out.mono BL.out.size)⟩
theorem wires_few : ∀ rs : List Rec, rs.length ≤ (wiresL rs).length
  | [] => Nat.le_refl _
  | r :: rs => by
    have h1 := wires_few rs
    have h2 := wireL_ne r
    rw [wiresL_cons, List.length_append, List.length_cons]
    omega
/-- What the law's own loop keeps. -/
structure Wl (w wr : World) (b X : Nat) (t u : ByteArray) : Prop where
  bel : Below w.heap.size w wr
  texts : HasR wr X 9 #[.string t, .string u]
  ref : RefR wr b
theorem Wl.still {w wr w' : World} {b X : Nat} {t u : ByteArray} (h : Wl w wr b X t u) (k : Below wr.heap.size wr w') : Wl w w' b X t u :=
  ⟨h.bel.trans (k.mono h.bel.size), h.texts.below k h.texts.lt, h.ref.below k h.ref.lt⟩
set_option maxRecDepth 100000 in
set_option maxHeartbeats 4000000 in
theorem writes_near (q : Int) (s : ByteArray) (g : Int) (p d : ByteArray) (tl : List UInt8) (w : World) (hl : longB s p d = false) (ht : tl.length ≤ 1500) (hE : TabE w) (hK : TabK w) :
    Calls Tryd.prog 3 #[.agg #[.int .i64 q, .string s, .int .i64 g, .string p, .string d], .string (tx tl)] w fun x w' => x = .returned (.bool true) ∧ Below w.heap.size w w' := by
  have hs : s.size ≤ 1000 := by
    unfold longB at hl
    simp only [Bool.or_eq_false_iff, decide_eq_false_iff_not] at hl
    omega
  have BL := hide (((Below.refl _ w).alloc (Nat.le_refl _) (.cells #[.int .i64 q, .string s, .int .i64 g, .string p, .string d] 23)))
  have E0 : Hid (HasR (w.alloc (.cells #[.int .i64 q, .string s, .int .i64 g, .string p, .string d] 23)) w.heap.size 23 (recQ q s g p d)) := hide (HasR.new w 23 _)
  have L := hide (fun wx => longRec_any q s g p d wx)
  rw [hl] at L
  have EE := hide (fun wx (hb : Below w.heap.size w wx) => hE.below hb hE.lt)
  have KK := hide (fun wx (hb : Below w.heap.size w wx) => hK.below hb hK.lt)
  have hw0 := hE.lt
  have hw1 := hK.lt
  clear hE hK hl
  obtain ⟨ul, e, ev, hul, W1, W2, W3⟩ := writes_both q s g p d hs
  have HW1 := hide W1
  have HW2 := hide W2
  have HW3 := hide W3
  clear W1 W2 W3
  have GR := hide (fun wx => rightI_any q s g p d wx)
  have GF := hide (fun wx => refRight_any q s g p d wx hs)
  generalize rightI q s g p d = rb at GR GF
  have NEW := hide (fun wx => new_any wx)
  obtain ⟨pq, psx, pg, pp, pd, pe, pev, P1, P2, P3⟩ := parses_both tl
  have HP1 := hide P1
  have HP2 := hide P2
  have HP3 := hide P3
  clear P1 P2 P3
  obtain ⟨rq, rsx, rg, rp, rd, re, rev, R1, R2, R3⟩ := parses_both ul
  have HR1 := hide R1
  have HR2 := hide R2
  have HR3 := hide R3
  clear R1 R2 R3
  have AL := hide (fun b wx (hk : RefR wx b) => refAll_any b tl (by omega) wx hk)
  have AP := hide (fun wx (hk : TabK wx) => all_any tl (by omega) wx hk)
  have NE := recW_neq
  have NE1 := NE pq psx pg pp pd
  have NE2 := NE rq rsx rg rp rd
  clear NE
  have hsz : (tx tl).size = tl.length := rfl
  have t1 : ¬ (1500 : Int) < (tl.length : Int) := by omega
  generalize tx ul = U at HW1 HW2 HR1 HR2
  go_enter Tryd.func3, Tryd.ntmps3
  go_upto_region 1 with fail
  have hz1 : (w.alloc (.cells #[.int .i64 q, .string s, .int .i64 g, .string p, .string d] 23)).heap.size = w.heap.size + 1 := by simp
  generalize w.alloc (.cells #[.int .i64 q, .string s, .int .i64 g, .string p, .string d] 23) = w1 at E0 BL hz1 ⊢
  obtain ⟨a0, a1, a2, a3, a4⟩ := E0.out.rec5
  go_upto_region 3 with (go_at_call 4; (with_reducible refine (L.out _).mono ?_); rintro y w2 ⟨rfl, hb2⟩; have B2 := hide hb2; clear hb2)
  clear a0 a1 a2 a3 a4
  have B2' := hide (BL.out.trans (B2.out.mono BL.out.size))
  have E2 := hide (E0.out.below B2.out E0.out.lt)
  clear B2
  go_upto_region 4 with (go_at_call 5; (with_reducible refine (NEW.out _).mono ?_); rintro y w3 ⟨rfl, hn3, hb3⟩; have RF := hide (refR_of hn3); have B3 := hide (B2'.out.trans (hb3.mono B2'.out.size)); have E3 := hide (E2.out.below hb3 E2.out.lt); clear hn3 hb3)
  generalize w2.heap.size = b at RF ⊢
  obtain ⟨a0, a1, a2, a3, a4⟩ := E3.out.rec5
  have C1 := hide (HW1.out b w3 RF.out)
  go_upto_region 5 with (go_at_call 6; (with_reducible refine C1.out.mono ?_); rintro y w4 ⟨rfl, hb4⟩; have B4 := hide (B3.out.trans (hb4.mono B3.out.size)); have E4 := hide (E3.out.below hb4 E3.out.lt); have R4 := hide (RF.out.below hb4 RF.out.lt); clear hb4)
  clear a0 a1 a2 a3 a4 C1 RF E3 E2
  obtain ⟨a0, a1, a2, a3, a4⟩ := E4.out.rec5
  have C2 := hide (HW2.out w4 (KK.out _ B4.out))
  go_upto_region 6 with (go_at_call 7; (with_reducible refine C2.out.mono ?_); rintro y w5 ⟨rfl, hb5⟩; have B5 := hide (B4.out.trans (hb5.mono B4.out.size)); have E5 := hide (E4.out.below hb5 E4.out.lt); have R5 := hide (R4.out.below hb5 R4.out.lt); clear hb5)
  clear a0 a1 a2 a3 a4 C2
  have CC := hide (fun wx (hb : Below w5.heap.size w5 wx) => (E5.out.below hb E5.out.lt).rec5)
  have KE := hide (CC.out _ (Below.refl _ w5).drew)
  obtain ⟨a0, a1, a2, a3, a4⟩ := CC.out _ (Below.refl _ w5)
  have C3 := hide (HW3.out w5.drew (EE.out _ B5.out.drew))
  have BD := hide (Below.refl w5.heap.size w5).drew
  go_region_held3 (fun wx => wx.cell? ⟨w.heap.size, 0, none⟩ = some (.int .i64 q) ∧ wx.cell? ⟨w.heap.size, 1, none⟩ = some (.string s) ∧ wx.cell? ⟨w.heap.size, 2, none⟩ = some (.int .i64 g) ∧ wx.cell? ⟨w.heap.size, 3, none⟩ = some (.string p) ∧ wx.cell? ⟨w.heap.size, 4, none⟩ = some (.string d)) (first | (with_reducible exact Q8.out) | (with_reducible exact Q7.out) | (with_reducible exact Q6.out) | go_keep)
    (first
    | (go_at_call 8; (with_reducible refine C3.out.mono ?_); rintro y w6 ⟨rfl, hb6⟩; have B6 := hide (BD.out.trans (hb6.mono BD.out.size)); have Q6 := hide (CC.out _ B6.out); clear hb6)
    | (go_at_call 9; (with_reducible refine (GR.out _).mono ?_); rintro y w7 ⟨rfl, hb7⟩; have B7 := hide (B6.out.trans (hb7.mono B6.out.size)); have Q7 := hide (CC.out _ B7.out); clear hb7)
    | (go_at_call 10; (with_reducible refine (GF.out _).mono ?_); rintro y w8 ⟨rfl, hb8⟩; have B8 := hide (B7.out.trans (hb8.mono B7.out.size)); have Q8 := hide (CC.out _ B8.out); clear hb8))
  have W8 := hide (show Wl w (w8.alloc (.cells #[.string (tx tl), .string U] 9)) b w8.heap.size (tx tl) U from ⟨(B5.out.trans (B8.out.mono B5.out.size)).alloc (B5.out.trans (B8.out.mono B5.out.size)).size _, HasR.new w8 9 _, (R5.out.below B8.out R5.out.lt).below ((Below.refl _ w8).alloc (Nat.le_refl _) _) (R5.out.below B8.out R5.out.lt).lt⟩)
  clear a0 a1 a2 a3 a4 C3 Q6 Q7 Q8 B6 B7 CC KE BD E5 R5 R4 E4
  go_wp2_with fail
  go_loopw [59] (fun i wr => ∃ k : Nat, k ≤ 2 ∧ i = .int .i64 k ∧ Wl w wr b w8.heap.size (tx tl) U) (fun i _ => 2 - (intOf i).toNat)
  case atStart => exact ⟨0, by omega, rfl, W8.out⟩
  case round =>
    clear W8
    obtain ⟨k, hk, rfl, hL⟩ := hrel
    have HL := hide hL
    clear hL
    have hk3 : k = 0 ∨ k = 1 ∨ k = 2 := by omega
    rcases hk3 with rfl | rfl | rfl
    · clear hk
      have c0 : wr.cell? ⟨w8.heap.size, 0, none⟩ = some (.string (tx tl)) := HL.out.texts.cell 0
      have D1 := hide (HP1.out b wr HL.out.ref)
      go_upto_region 12 with (go_at_call 11; (with_reducible refine D1.out.mono ?_); rintro y wa ⟨rfl, hba⟩; have HA := hide (HL.out.still hba); clear hba)
      clear c0 D1
      have X1 : Hid (HasR (wa.alloc (.cells #[.int .i64 pq, .string psx, .int .i64 pg, .string pp, .string pd] 23)) wa.heap.size 23 (recQ pq psx pg pp pd)) := hide (HasR.new wa 23 _)
      have HB := hide (HA.out.still ((Below.refl _ wa).alloc (Nat.le_refl _) (.cells #[.int .i64 pq, .string psx, .int .i64 pg, .string pp, .string pd] 23)))
      generalize wa.alloc (.cells #[.int .i64 pq, .string psx, .int .i64 pg, .string pp, .string pd] 23) = wb at X1 HB ⊢
      have D2 := hide (HP2.out wb (KK.out _ HB.out.bel))
      go_upto_region 13 with (go_at_call 12; (with_reducible refine D2.out.mono ?_); rintro y wc ⟨rfl, hbc⟩; have HC := hide (HB.out.still hbc); have X2 := hide (X1.out.below hbc X1.out.lt); clear hbc)
      have Y1 : Hid (HasR (wc.alloc (.cells #[.int .i64 pq, .string psx, .int .i64 pg, .string pp, .string pd] 23)) wc.heap.size 23 (recQ pq psx pg pp pd)) := hide (HasR.new wc 23 _)
      have X3 := hide (X2.out.alloc (.cells #[.int .i64 pq, .string psx, .int .i64 pg, .string pp, .string pd] 23))
      have HD := hide (HC.out.still ((Below.refl _ wc).alloc (Nat.le_refl _) (.cells #[.int .i64 pq, .string psx, .int .i64 pg, .string pp, .string pd] 23)))
      generalize wc.alloc (.cells #[.int .i64 pq, .string psx, .int .i64 pg, .string pp, .string pd] 23) = wd at Y1 X3 HD ⊢
      have D3 := hide (HP3.out wd (EE.out _ HD.out.bel))
      go_wp2_with (go_at_call 8; (with_reducible refine D3.out.mono ?_); rintro y wx ⟨rfl, hbx⟩; have HX := hide (HD.out.still hbx); obtain ⟨x0, x1, x2, x3, x4⟩ := (X3.out.below hbx X3.out.lt).rec5; obtain ⟨y0, y1, y2, y3, y4⟩ := (Y1.out.below hbx Y1.out.lt).rec5; clear hbx)
      go_roundw
      case rel => exact ⟨1, by omega, by go_num, HX.out⟩
      case measure => simp [intOf]
    · clear hk
      have c0 : wr.cell? ⟨w8.heap.size, 1, none⟩ = some (.string U) := HL.out.texts.cell 1
      have D1 := hide (HR1.out b wr HL.out.ref)
      go_upto_region 12 with (go_at_call 11; (with_reducible refine D1.out.mono ?_); rintro y wa ⟨rfl, hba⟩; have HA := hide (HL.out.still hba); clear hba)
      clear c0 D1
      have X1 : Hid (HasR (wa.alloc (.cells #[.int .i64 rq, .string rsx, .int .i64 rg, .string rp, .string rd] 23)) wa.heap.size 23 (recQ rq rsx rg rp rd)) := hide (HasR.new wa 23 _)
      have HB := hide (HA.out.still ((Below.refl _ wa).alloc (Nat.le_refl _) (.cells #[.int .i64 rq, .string rsx, .int .i64 rg, .string rp, .string rd] 23)))
      generalize wa.alloc (.cells #[.int .i64 rq, .string rsx, .int .i64 rg, .string rp, .string rd] 23) = wb at X1 HB ⊢
      have D2 := hide (HR2.out wb (KK.out _ HB.out.bel))
      go_upto_region 13 with (go_at_call 12; (with_reducible refine D2.out.mono ?_); rintro y wc ⟨rfl, hbc⟩; have HC := hide (HB.out.still hbc); have X2 := hide (X1.out.below hbc X1.out.lt); clear hbc)
      have Y1 : Hid (HasR (wc.alloc (.cells #[.int .i64 rq, .string rsx, .int .i64 rg, .string rp, .string rd] 23)) wc.heap.size 23 (recQ rq rsx rg rp rd)) := hide (HasR.new wc 23 _)
      have X3 := hide (X2.out.alloc (.cells #[.int .i64 rq, .string rsx, .int .i64 rg, .string rp, .string rd] 23))
      have HD := hide (HC.out.still ((Below.refl _ wc).alloc (Nat.le_refl _) (.cells #[.int .i64 rq, .string rsx, .int .i64 rg, .string rp, .string rd] 23)))
      generalize wc.alloc (.cells #[.int .i64 rq, .string rsx, .int .i64 rg, .string rp, .string rd] 23) = wd at Y1 X3 HD ⊢
      have D3 := hide (HR3.out wd (EE.out _ HD.out.bel))
      go_wp2_with (go_at_call 8; (with_reducible refine D3.out.mono ?_); rintro y wx ⟨rfl, hbx⟩; have HX := hide (HD.out.still hbx); obtain ⟨x0, x1, x2, x3, x4⟩ := (X3.out.below hbx X3.out.lt).rec5; obtain ⟨y0, y1, y2, y3, y4⟩ := (Y1.out.below hbx Y1.out.lt).rec5; clear hbx)
      go_roundw
      case rel => exact ⟨2, by omega, by go_num, HX.out⟩
      case measure => simp [intOf]
    · clear hk
      have D1 := hide (AL.out b wr HL.out.ref)
      go_upto_region 17 with (go_at_call 13; (with_reducible refine D1.out.mono ?_); rintro y wa ⟨va, ra, rfl, hAa, hrow, hba⟩; have HA := hide (HL.out.still hba); have RA := hide hrow; have AA := hide hAa; clear hba hrow hAa)
      have D2 := hide (AP.out wa (KK.out _ HA.out.bel))
      go_upto_region 18 with (go_at_call 14; (with_reducible refine D2.out.mono ?_); rintro y wb ⟨vb, rb2, rfl, hAb, hrow, hbb⟩; have HB := hide (HA.out.still hbb); have RB := hide hrow; have RA2 := hide (row_still RA.out hbb); obtain rfl := AA.out.eq hAb; clear hbb hrow hAb)
      have hfew : ra.length ≤ 100000 := by
        obtain ⟨tl', ht', _⟩ := AA.out.rest
        have h1 := congrArg List.length ht'
        have h2 := wires_few ra
        rw [List.length_append] at h1
        omega
      have D3 := hide (sameRecs_any _ _ vb va ra wb hfew RB.out RA2.out)
      generalize (wiresL ra).length = nn
      go_wp2_with (go_at_call 15; (with_reducible refine D3.out.mono ?_); rintro y wc ⟨rfl, hbc⟩; have HC := hide (HB.out.still hbc); clear hbc)
      go_ret
      exact ⟨rfl, HC.out.bel⟩
theorem writes_any (q : Int) (s : ByteArray) (g : Int) (p d t : ByteArray) (w : World) (hE : TabE w) (hK : TabK w) :
    Calls Tryd.prog 3 #[.agg #[.int .i64 q, .string s, .int .i64 g, .string p, .string d], .string t] w fun x w' => x = .returned (.bool true) ∧ Below w.heap.size w w' := by
  cases hl : longB s p d with
  | true => exact writes_far q s g p d t w (.inl hl)
  | false =>
    by_cases ht : 1500 < t.size
    · exact writes_far q s g p d t w (.inr ⟨hl, ht⟩)
    · have hz : t.data.toList.length = t.size := rfl
      exact writes_near q s g p d t.data.toList w hl (by omega) hE hK
end Go.Proofs.YtjobghphjkeohaaDoor

namespace Go.Proofs.YtjobghphjkeohaaDoor
open Go.ChangeShapes Go.WideShapes Go.ChangeAt Go.RowKit
open Go.ChangeMaps (open_string shut_string)
set_option maxRecDepth 100000 in
theorem wireWrites_lifted (os : Os) (started : os.Started) (H : Type) (enc : TypeId × Value → H) :
    ReturnsInHanded {} Tryd.checked os 3 .any (fun w args => (Rows.wireWritesSpec.pre enc Tryd.prog Tryd.f3 [] false w args ∧ laidMetH Tryd.prog Rows.wireWritesRow.laid w) ∧ sizedMet enc Tryd.prog Tryd.f3 (OpenSpec.ofChange Rows.wireWritesSpec) false w args)
      (Rows.wireWritesSpec.post enc Tryd.prog Tryd.f3 false true false false) := by
  refine returnsInHanded_of_change_and (C := Tryd.checked) (X := fun w _ => laidMetH Tryd.prog Rows.wireWritesRow.laid w) (fun _ _ _ hh h => h.of_heap hh) own started (by kernel_rfl) Tryd.func3
    (ChangeSpec.witness_shaped (enc := enc) (C := Tryd.checked) (os := os) (X := fun w _ => laidMetH Tryd.prog Rows.wireWritesRow.laid w) false (World.doorLaid Tryd.prog 21 os) #[.agg #[.int .i64 0, .string ByteArray.empty, .int .i64 0, .string ByteArray.empty, .string ByteArray.empty], .string ByteArray.empty] 8 rfl (World.shaped_of_RefB (by kernel_rfl) (by kernel_rfl)) (by kernel_rfl) (by kernel_rfl) (by kernel_rfl) (door_both os _)) ?_
  intro W base args ds gs before hval0 hW _ _ hL _
  have hval : ∀ (j : Nat) t v, Tryd.f3.params[j]? = some t → args[j]? = some v → Value.okWide Tryd.prog W .any base t v := hval0
  have hW' := hW
  obtain ⟨p, q, hA0, hV, rfl, hfz, hnd⟩ := hW
  have hA : DataW.TrodAll enc Tryd.prog W 0 (fun _ => true) true Tryd.f3.params.toList args.toList ds p := hA0
  rw [Tryd.params3] at hA hval
  obtain ⟨v0, vs0, d0, ds0, p0, q0, hargs, rfl, rfl, h0, r0⟩ := trodAll_cons hA
  obtain ⟨v1, vs1, d1, ds1, p1, q1, rfl, rfl, rfl, h1, r1⟩ := trodAll_cons r0
  obtain ⟨rfl, rfl, rfl⟩ := trodAll_nil r1
  obtain rfl : args = #[v0, v1] := by cases args; simp_all
  obtain ⟨rfl, rfl⟩ := trodVars_none hV
  have k0 := h0
  have lt0 : ∀ x ∈ p0, x.block < W.heap.size := by obtain ⟨m, hm⟩ := k0; exact DataW.trod_lt m _ _ _ hm
  obtain ⟨a0, a1, a2, a3, a4, rfl⟩ := record_of (hval 0 23 v0 rfl rfl) h0
  obtain ⟨t, rfl, rfl, rfl, k1⟩ := open_string Tryd.underlying9 (hval 1 9 v1 rfl rfl) h1
  have hT := of_both hL
  clear hA0 hval0
  simp only [List.append_nil] at hW'
  refine (writes_any a0 a1 a2 a3 a4 t W hT.1 hT.2).mono fun e W' ⟨he, bel⟩ => ?_
  subst he
  exact ⟨_, rfl, _, _, _, [], _, [], hW', trodAll_mk1 (shut_bool Tryd.underlying4 _), (trodAll_cons_mk (Below.trod laidOut (by kernel_rfl) (of_decide_eq_true (by kernel_rfl)) k0 bel lt0) (trodAll_cons_mk (shut_string Tryd.underlying9 k1) trodAll_mk0)), rfl, bel.frame _, fun h => by cases h⟩
theorem wireWrites_row_holds : Rows.WireWritesSaid :=
  OpenClaim.holds_of_wide 3 Tryd.f3 rfl rfl rfl rfl rfl rfl rfl ⟨rfl, rfl, rfl, rfl, rfl⟩ rfl rfl rfl rfl rfl (by kernel_rfl) Tryd.func3 (by kernel_rfl)
    (of_decide_eq_true (by kernel_rfl)) (by unfold Func.isWrapper; first | (rw [if_pos (by decide +kernel)]; kernel_rfl) | (rw [if_neg (by decide +kernel)]; exact ⟨rfl, rfl⟩))
    (fun os started H enc _ => wireWrites_lifted os started H enc)
theorem wireWrites_holds : Rows.WireWritesCardSaid :=
  Claim7.holds_tied_plain_at .later [] [.handle, .data] true (true, "47bbb8fe47232d9c1b6a153f54691508d68cb3fce99142004975904bd3bc9fa3") true
    wireWrites_row_holds (fun _ h => by cases h) (by kernel_rfl) (fun _ h => by cases h) wireWrites_row_tie rfl ⟨rfl, rfl⟩ (by kernel_rfl) rfl
    (fun f fn hf hfn => by
      obtain rfl : f = 3 := Option.some.inj ((show Tryd.prog.funcNamed Rows.wireWritesRow.func = some 3 by kernel_rfl).symm.trans hf) |>.symm
      obtain rfl : fn = Tryd.f3 := (Option.some.inj (Tryd.func3.symm.trans hfn)).symm
      exact ⟨by kernel_rfl, fun j t ht => by
        rw [Tryd.params3] at ht
        have hm : t ∈ [23, 9] := by simpa using Array.mem_of_getElem? ht
        have hall : ([23, 9].all fun u => !Tryd.prog.wantsStandIn u) = true := by kernel_rfl
        exact (show Tryd.prog.wantsStandIn t = false by simpa using List.all_eq_true.1 hall t hm)⟩)
    (by kernel_rfl)
end Go.Proofs.YtjobghphjkeohaaDoor
