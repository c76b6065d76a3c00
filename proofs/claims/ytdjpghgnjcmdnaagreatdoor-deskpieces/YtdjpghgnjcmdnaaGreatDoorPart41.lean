/- Texts of this proof, one behind the other. -/
import Derived.Deep.RegionHeld3
import Derived.Deep.DeepCutAuto
import Derived.Shelf.Abstract
import Derived.Test.YtdjpghgnjcmdnaaGreatDoorPart40
/- The order 'feed'. -/
namespace Go.Proofs.YtdjpghgnjcmdnaaGreatDoor
open Go.RowKit Go.Shelf Go.Sort Go.Maps
set_option linter.unusedSectionVars false
variable [Inhabited LowT]
variable [Inhabited Cl] [Inhabited Ev]
attribute [local go_sem ↓] Go.wp_at_zero Go.wp_at_succ
/-- What is shown of a record's mark. -/
def shownL (r : Rec) : List UInt8 := hexL ((markR r).data.toList.take 4)
theorem cut4 (s : ByteArray) (h : 4 ≤ s.size) (w : World) : (Instr.slice 9 (.string s) none (some (.int .i64 4)) none).run Tryz.prog w = .ok (.string (textL (s.data.toList.take 4))) w := by
  have h2 := run_slice_string_h (P := Tryz.prog) w 9 s Tryz.underlying9 .i64 4 (by omega) (by omega)
  have e : s = textL (s.data.toList.take 4 ++ s.data.toList.drop 4) := by rw [List.take_append_drop]; exact (textL_of s).symm
  have l4 : (s.data.toList.take 4).length = 4 := by
    rw [List.length_take]
    have : s.data.toList.length = s.size := by simp
    omega
  have h3 : s.extract 0 4 = textL (s.data.toList.take 4) := by
    have h4 := textL_take (s.data.toList.take 4) (s.data.toList.drop 4)
    rw [l4, ← e] at h4
    exact h4
  rw [h2]
  show Result.ok (Value.string (s.extract 0 4)) w = _
  rw [h3]
theorem recs_take (rs : List Rec) (j : Nat) (h : j < rs.length) : rs.take (j + 1) = rs.take j ++ [rs.getD j recZ] := by
  rw [List.take_succ_eq_append_getElem h, List.getD_eq_getElem?_getD, List.getElem?_eq_getElem h]
  rfl
def feedsV (w0 wr : World) (o : Value) (j : Nat) (rs : List Rec) : Prop := wr.ownsRow w0.heap.size 9 1 o j ((rs.take j).map fun r => Value.string (textL (shownL r))) ∧ Below w0.heap.size w0 wr
theorem textL_size (l : List UInt8) : (textL l).size = l.length := rfl
theorem shown_len (r : Rec) : (shownL r).length ≤ 8 := by
  unfold shownL
  rw [hexL_len, List.length_take]
  omega
set_option maxRecDepth 100000 in
set_option maxHeartbeats 4000000 in
theorem cmd_feed : CmdOk 22 (arOf (0)) := by
  intro db s w x v xs z hD hc hV hP hsz har hz
  obtain ⟨κ, B, ob, sb, fb, vb, mt, mv, vf, rm, ρ, c3, c4, c5, c6, h⟩ := hD
  obtain ⟨hP1, p, cp, rfl, hcp⟩ := hP
  have hx := (size_words hsz).1
  have X0 := hide (HasR.new w 65 #[.string x, .slice p xs.length cp, .int .i64 z])
  have B0 := hide ((Below.refl w.heap.size w).alloc (Nat.le_refl _) (.cells #[.string x, .slice p xs.length cp, .int .i64 z] 65))
  obtain ⟨W, hW⟩ : ∃ W, w.alloc (.cells #[.string x, .slice p xs.length cp, .int .i64 z] 65) = W := ⟨_, rfl⟩
  rw [hW] at X0 B0
  have HW := hide hW
  have HD := hide (h.still B0.out)
  have h11 := hV.n
  have _hk11 := lowK_le
  have HV := hide (hV.low (B0.out.mono h11) B0.out.size)
  have hlS : s.h.ok.length ≤ 100 := h.good.len
  have hrl : s.h.rs.length = s.h.ok.length := h.good.did.both
  have VB : Hid (∀ wx, Below W.heap.size W wx → Vars wx) := hide fun wx hb => HV.out.low (hb.mono HV.out.n) hb.size
  have KB : Hid (∀ wx, Below W.heap.size W wx → wx.cell? ⟨w.heap.size, 0, none⟩ = some (.string x) ∧ wx.cell? ⟨w.heap.size, 1, none⟩ = some (.slice p xs.length cp) ∧ wx.cell? ⟨w.heap.size, 2, none⟩ = some (.int .i64 z) ∧ wx.cell? ⟨db, 1, none⟩ = some (.pointer (some ⟨sb, 0, none⟩))) := hide fun wx hb =>
    have X := X0.out.below hb X0.out.lt
    ⟨X.cell 0, X.cell 1, X.cell 2, (HD.out.still hb).desk.cell 1⟩
  obtain ⟨k0, k1, k2, k3⟩ := KB.out W (Below.refl _ _)
  have HH := hide h
  have HP := hide hP1
  have LW : Hid (Parts W (.slice p xs.length cp) xs) := hide (hP1.below B0.out rfl)
  clear h hW hP1
  have C47 := hide (srcFeed_any B W sb fb vb mt mv vf s.h.ok.length s.h.ok.length s.sec s.h.σ s.h.τ s.h.rs HD.out.src (by omega))
  have HF := hide HD.out.src.fit
  clear hsz
  go_enter Tryz.func22, Tryz.ntmps22
  go_upto_region 1 with fail
  rw [HW.out]
  go_wp2_with (go_at_call 47; (with_reducible refine C47.out.mono ?_); rintro y w3 ⟨u, rfl, hrow, hb3⟩; obtain ⟨p2, cp2, rfl⟩ := ownsRow_slice hrow; have B3 := hide hb3; have ROW := hide hrow; clear hrow hb3)
  have O0 := hide (And.intro (World.ownsRow_nil w3 w3.heap.size 9 1) (Below.refl w3.heap.size w3))
  clear k0 k1 k2 k3
  go_loopw [5, 14] (fun o i wr => ∃ j : Nat, i = .int .i64 j ∧ j ≤ s.h.rs.length ∧ feedsV w3 wr o j s.h.rs) (fun _ i _ => s.h.rs.length - (intOf i).toNat)
  case atStart => exact ⟨0, rfl, Nat.zero_le _, O0.out⟩
  case round =>
    clear O0
    obtain ⟨j, rfl, hj, hI⟩ := hrel
    have OW := hide hI.1
    have BL := hide hI.2
    clear hI
    by_cases hlt : j < s.h.rs.length
    · obtain ⟨g3, rfl, hg3, hcap, e0, e1, e2, e3, e4⟩ := recs_at (ownsRow_below ROW.out BL.out) hlt
      have hmem : s.h.rs.getD j recZ ∈ s.h.rs := getD_mem hlt
      have HTK := hide (recs_take s.h.rs j hlt)
      have hfit := HF.out _ hmem
      have i1 : (j : Int) < (s.h.rs.length : Int) := by omega
      clear hmem
      generalize s.h.rs.getD j recZ = rec at e0 e1 e2 e3 e4 HTK hfit
      have B0' := hide ((Below.refl wr.heap.size wr).alloc (Nat.le_refl _) (.cells #[.int .i64 (rec.q : Int), .string rec.s, .int .i64 (rec.g : Int), .string rec.p, .string rec.d] 74))
      have bA := B3.out.trans ((BL.out.mono B3.out.size).trans (B0'.out.mono (Nat.le_trans B3.out.size BL.out.size)))
      have C58 := hide (markRec_any rec (wr.alloc (.cells #[.int .i64 (rec.q : Int), .string rec.s, .int .i64 (rec.g : Int), .string rec.p, .string rec.d] 74)) hfit (VB.out _ bA).k)
      have SL := fun wx => cut4 (markR rec) (by rw [markR_size]; omega) wx
      have C57 := hide (fun wx => hex_text ((markR rec).data.toList.take 4) wx (by rw [List.length_take]; omega))
      have m4 : (4 : Int) ≤ ((markR rec).size : Int) := by rw [markR_size]; omega
      have HSH : Hid (∀ _ : Unit, shownL rec = hexL ((markR rec).data.toList.take 4)) := hide (fun _ => rfl)
      generalize (markR rec).data.toList.take 4 = t4 at SL C57 HSH
      generalize hexL t4 = h4 at C57 HSH
      generalize markR rec = mk at C58 SL m4
      clear bA hfit
      go_wp2_with (first
        | (go_at_call 58; (with_reducible refine C58.out.mono ?_); rintro y w6 ⟨rfl, hb6⟩; have B6 := hide (B0'.out.trans (hb6.mono B0'.out.size)); clear hb6)
        | (go_at_call 57; (with_reducible refine (C57.out _).mono ?_); rintro y w7 ⟨rfl, hb7⟩; have B7 := hide (B6.out.trans (hb7.mono B6.out.size)); clear hb7)
        | (at_builtin; refine app_strs rfl _ _ rfl w3.heap.size _ j _ rfl (ownsRow_below OW.out (B7.out.alloc B7.out.size _)) _ [_] rfl (parts_one w7.heap.size _ (HasR.new w7 9 _)) (by simp; omega) (by have := BL.out.size; have := B7.out.size; simp; omega) ?_; intro v' w2 hown' hg2; have O2 := hide hown'; have G2 := hide hg2; clear hown' hg2; go_frame))
      have bW : Below w3.heap.size w3 w2 := ((BL.out.trans (B7.out.mono BL.out.size)).alloc (Nat.le_trans BL.out.size B7.out.size) _).grown G2.out (by have := BL.out.size; have := B7.out.size; simp; omega) (fun k hk => (OW.out.lt k hk).1)
      have e2' : ((s.h.rs.take j).map fun r => Value.string (textL (shownL r))) ++ [textL h4].map Value.string = (s.h.rs.take (j + 1)).map fun r => Value.string (textL (shownL r)) := by
        rw [HTK.out, List.map_append, ← HSH.out ()]
        rfl
      have O3 := O2.out
      rw [e2'] at O3
      have O4 : w2.ownsRow w3.heap.size 9 1 v' (j + 1) ((s.h.rs.take (j + 1)).map fun r => Value.string (textL (shownL r))) := O3
      first
        | exact ⟨⟨j + 1, by go_num, by omega, And.intro O4 bW⟩, by simp [intOf]; omega⟩
        | ((repeat apply Exists.intro); exact ⟨⟨⟨j + 1, by go_num, by omega, And.intro O4 bW⟩, rfl⟩, by simp [intOf]; omega⟩)
    · have ej : j = s.h.rs.length := by omega
      subst ej
      have O2 := OW.out
      rw [List.take_length] at O2
      have hmm : (s.h.rs.map fun r => hexL ((markR r).data.toList.take 4)).map textL = s.h.rs.map (fun r => textL (shownL r)) := by
        rw [List.map_map]
        rfl
      have hsz : ∀ q ∈ s.h.rs.map (fun r => textL (shownL r)), q.size ≤ 8 := fun q hq => by
        obtain ⟨r, _, e⟩ := List.mem_map.1 hq
        rw [← e, textL_size]
        exact shown_len r
      have hl2 : (s.h.rs.map (fun r => textL (shownL r))).length = s.h.rs.length := List.length_map _
      have PT := parts_of_row (ps := s.h.rs.map (fun r => textL (shownL r))) (by rw [List.map_map]; exact O2) hl2.symm
      have HMM := hide (fun _ : Unit => hmm)
      clear O2 hmm
      generalize s.h.rs.map (fun r => textL (shownL r)) = ps at hsz hl2 PT HMM
      have bR := B3.out.trans (BL.out.mono B3.out.size)
      have C12 := hide (tell_any x _ ps wr PT (by omega) (told_fits hsz hx (by omega)))
      have HSZ := hide hsz
      obtain ⟨r0, r1, r2, r3⟩ := KB.out wr bR
      have BR := hide bR
      clear PT hsz bR
      go_wp2_with (go_at_call 12; (with_reducible refine C12.out.mono ?_); rintro y w5 ⟨rfl, hb5⟩)
      go_ret
      have bT : Below w.heap.size w w5 := B0.out.trans ((BR.out.mono B0.out.size).trans (hb5.mono (Nat.le_trans B0.out.size BR.out.size)))
      refine ⟨toldR x (s.h.rs.map fun r => hexL ((markR r).data.toList.take 4)) s, .inr (.inr (.inr (.inr (.inr (.inr (.inr (.inr (.inl ⟨rfl, rfl⟩)))))))), .inr ⟨_, _, rfl, ?_, ?_, HH.out.same bT⟩, Quiet.of_below bT h11⟩
      · rw [HMM.out ()]
        rfl
      · rw [HMM.out ()]
        have := told_fits HSZ.out hx (by omega) (x := x)
        omega
end Go.Proofs.YtdjpghgnjcmdnaaGreatDoor

/- Bytes taken for a record's parts: the program's cut. -/
namespace Go.Proofs.YtdjpghgnjcmdnaaGreatDoor
open Go.RowKit
attribute [local go_sem ↓] Go.wp_at_zero Go.wp_at_succ
theorem tx_take (l : List UInt8) (k : Nat) : (tx l).extract 0 k = tx (l.take k) := by
  apply ByteArray.ext
  rw [ByteArray.data_extract]
  apply Array.toList_inj.1
  rw [Array.toList_extract]
  show List.extract l 0 k = l.take k
  simp [List.extract]
theorem tx_drop (l : List UInt8) (k : Nat) : (tx l).extract k l.length = tx (l.drop k) := by
  apply ByteArray.ext
  rw [ByteArray.data_extract]
  apply Array.toList_inj.1
  rw [Array.toList_extract]
  show List.extract l k l.length = l.drop k
  simp only [List.extract]
  rw [List.take_of_length_le (by rw [List.length_drop]; exact Nat.le_refl _)]
theorem byte_lt (a : UInt8) : a.toNat < 256 := a.toNat_lt
theorem or_zero (a : UInt8) : bits .or .i64 0 (a.toNat : Int) = (a.toNat : Int) := by
  have := byte_lt a
  show IntKind.i64.wrap ((BitVec.ofInt 64 0 ||| BitVec.ofInt 64 (a.toNat : Int)).toNat : Int) = _
  rw [BitVec.ofInt_natCast, BitVec.toNat_or, BitVec.toNat_ofNat, Nat.mod_eq_of_lt (by omega)]
  rw [IntKind.wrap_i64]
  simp
  omega
theorem or_byte (a b : UInt8) : bits .or .i64 ((a.toNat : Int) * 256) (b.toNat : Int) = ((a.toNat * 256 + b.toNat : Nat) : Int) := by
  have h1 := byte_lt a
  have h2 := byte_lt b
  show IntKind.i64.wrap ((BitVec.ofInt 64 ((a.toNat : Int) * 256) ||| BitVec.ofInt 64 (b.toNat : Int)).toNat : Int) = _
  rw [show ((a.toNat : Int) * 256) = ((a.toNat * 256 : Nat) : Int) by omega]
  rw [BitVec.ofInt_natCast, BitVec.ofInt_natCast, BitVec.toNat_or, BitVec.toNat_ofNat, BitVec.toNat_ofNat, Nat.mod_eq_of_lt (by omega), Nat.mod_eq_of_lt (by omega)]
  have h3 : a.toNat * 256 ||| b.toNat = a.toNat * 256 + b.toNat := by
    have := Nat.shiftLeft_add_eq_or_of_lt (b := b.toNat) (i := 8) (by omega) a.toNat
    rw [Nat.shiftLeft_eq] at this
    exact this.symm
  rw [h3, IntKind.wrap_i64]
  omega
theorem wrap_byte (a : UInt8) : wrap64 (a.toNat : Int) = (a.toNat : Int) := by
  have := byte_lt a
  unfold wrap64
  omega
theorem HasR.apart9 {w : World} {b b' : Nat} {t t' : TypeId} {cs cs' : Array Value} (h : HasR w b t cs) (h' : HasR w b' t' cs') (hne : t ≠ t') : b ≠ b' := by
  intro e
  subst e
  unfold HasR at h h'
  rw [h] at h'
  injection h' with h1
  injection h1 with _ h2
  exact hne h2
/-- While the parts are taken. -/
structure Cu (w0 w : World) (b0 b1 b2 : Nat) (l : List UInt8) (cs : Array Value) : Prop where
  box : HasR w b0 9 #[.string (tx l)]
  res : HasR w b1 74 #[.int .i64 0, .string ⟨#[]⟩, .int .i64 0, .string ⟨#[]⟩, .string ⟨#[]⟩]
  rec_ : HasR w b2 74 cs
  ne : b1 ≠ b2
  low0 : w0.heap.size ≤ b0
  low2 : w0.heap.size ≤ b2
  bel : Below w0.heap.size w0 w
theorem Cu.set {w0 w : World} {b0 b1 b2 : Nat} {l : List UInt8} {cs : Array Value} (h : Cu w0 w b0 b1 b2 l cs) (i : Nat) (v : Value) : Cu w0 (w.setCell ⟨b2, i, none⟩ v) b0 b1 b2 l (cs.setIfInBounds i v) := by
  have st : Stirred [b2] w (w.setCell ⟨b2, i, none⟩ v) := Stirred.setCell w ⟨b2, i, none⟩ _
  refine ⟨h.box.turned st (fun hm => ?_), h.res.turned st (fun hm => ?_), h.rec_.set i v, h.ne, h.low0, h.low2, h.bel.trans (st.below h.bel.size (fun j hj => by simp at hj; rw [hj]; exact h.low2))⟩
  · simp at hm; exact HasR.apart9 h.box h.rec_ (by decide) hm
  · simp at hm; exact h.ne hm
theorem take_le (l : List UInt8) (n : Nat) : (l.take n).length ≤ n := List.length_take_le _ _
end Go.Proofs.YtdjpghgnjcmdnaaGreatDoor

/- A record written: the program's Right and Write. -/
namespace Go.Proofs.YtdjpghgnjcmdnaaGreatDoor
open Go.RowKit
attribute [local go_sem ↓] Go.wp_at_zero Go.wp_at_succ
set_option maxRecDepth 100000 in
set_option maxHeartbeats 4000000 in
/-- May it be written? Whatever its numbers. -/
theorem rightI_any (q : Int) (s : ByteArray) (g : Int) (p d : ByteArray) (w : World) :
    Calls Tryz.prog 92 #[.agg #[.int .i64 q, .string s, .int .i64 g, .string p, .string d]] w fun x w' => x = .returned (.bool (rightI q s g p d)) ∧ Below w.heap.size w w' := by
  have N := hide (fun wx => name_any s wx)
  have bel : Below w.heap.size w (w.alloc (.cells #[.int .i64 q, .string s, .int .i64 g, .string p, .string d] 74)) := (Below.refl _ w).alloc (Nat.le_refl _) _
  have BL := hide bel
  clear bel
  unfold rightI
  generalize nameB s.data.toList = b3 at N ⊢
  by_cases h1 : 1 ≤ q
  · by_cases h2 : q ≤ 100
    · cases b3 with
      | false =>
        have d1 : decide (1 ≤ q) = true := decide_eq_true h1
        have d2 : decide (q ≤ 100) = true := decide_eq_true h2
        rw [d1, d2]
        go_enter Tryz.func92, Tryz.ntmps92
        go_wp2_with (go_at_call 131; (with_reducible refine (N.out _).mono ?_); rintro y w1 ⟨rfl, hw1⟩; obtain rfl := hw1.symm)
        go_ret
        exact ⟨rfl, BL.out⟩
      | true =>
        by_cases h4 : 0 ≤ g
        · by_cases h5 : g ≤ 100
          · by_cases h6 : p.size = 16
            · have d1 : decide (1 ≤ q) = true := decide_eq_true h1
              have d2 : decide (q ≤ 100) = true := decide_eq_true h2
              have d4 : decide (0 ≤ g) = true := decide_eq_true h4
              have d5 : decide (g ≤ 100) = true := decide_eq_true h5
              have d6 : decide (p.size = 16) = true := decide_eq_true h6
              have d8 : ((p.size : Int) == 16) = true := by simp; omega
              rw [d1, d2, d4, d5, d6]
              clear h6
              go_enter Tryz.func92, Tryz.ntmps92
              go_wp2_with (go_at_call 131; (with_reducible refine (N.out _).mono ?_); rintro y w1 ⟨rfl, hw1⟩; obtain rfl := hw1.symm)
              go_ret
              have d7 : decide ((d.size : Int) ≤ 416) = decide (d.size ≤ 416) := by
                by_cases h7 : d.size ≤ 416
                · rw [decide_eq_true h7, decide_eq_true (by omega)]
                · rw [decide_eq_false h7, decide_eq_false (by omega)]
              refine ⟨ret_val ?_, BL.out⟩
              rw [← d7]
              rfl
            · have d1 : decide (1 ≤ q) = true := decide_eq_true h1
              have d2 : decide (q ≤ 100) = true := decide_eq_true h2
              have d4 : decide (0 ≤ g) = true := decide_eq_true h4
              have d5 : decide (g ≤ 100) = true := decide_eq_true h5
              have d6 : decide (p.size = 16) = false := decide_eq_false h6
              have d8 : ((p.size : Int) == 16) = false := by rw [beq_eq_false_iff_ne]; omega
              rw [d1, d2, d4, d5, d6]
              clear h6
              go_enter Tryz.func92, Tryz.ntmps92
              go_wp2_with (go_at_call 131; (with_reducible refine (N.out _).mono ?_); rintro y w1 ⟨rfl, hw1⟩; obtain rfl := hw1.symm)
              go_ret
              exact ⟨rfl, BL.out⟩
          · have d1 : decide (1 ≤ q) = true := decide_eq_true h1
            have d2 : decide (q ≤ 100) = true := decide_eq_true h2
            have d4 : decide (0 ≤ g) = true := decide_eq_true h4
            have d5 : decide (g ≤ 100) = false := decide_eq_false h5
            rw [d1, d2, d4, d5]
            go_enter Tryz.func92, Tryz.ntmps92
            go_wp2_with (go_at_call 131; (with_reducible refine (N.out _).mono ?_); rintro y w1 ⟨rfl, hw1⟩; obtain rfl := hw1.symm)
            go_ret
            exact ⟨rfl, BL.out⟩
        · have d1 : decide (1 ≤ q) = true := decide_eq_true h1
          have d2 : decide (q ≤ 100) = true := decide_eq_true h2
          have d4 : decide (0 ≤ g) = false := decide_eq_false h4
          rw [d1, d2, d4]
          go_enter Tryz.func92, Tryz.ntmps92
          go_wp2_with (go_at_call 131; (with_reducible refine (N.out _).mono ?_); rintro y w1 ⟨rfl, hw1⟩; obtain rfl := hw1.symm)
          go_ret
          exact ⟨rfl, BL.out⟩
    · have d1 : decide (1 ≤ q) = true := decide_eq_true h1
      have d2 : decide (q ≤ 100) = false := decide_eq_false h2
      rw [d1, d2]
      go_enter Tryz.func92, Tryz.ntmps92
      go_wp2
      go_ret
      exact ⟨rfl, BL.out⟩
  · have d1 : decide (1 ≤ q) = false := decide_eq_false h1
    rw [d1]
    go_enter Tryz.func92, Tryz.ntmps92
    go_wp2
    go_ret
    exact ⟨rfl, BL.out⟩
set_option maxRecDepth 100000 in
set_option maxHeartbeats 1000000 in
/-- What may not be is not written. -/
theorem write_bad (q : Int) (s : ByteArray) (g : Int) (p d : ByteArray) (w : World) (h : rightI q s g p d = false) :
    Calls Tryz.prog 60 #[.agg #[.int .i64 q, .string s, .int .i64 g, .string p, .string d]] w fun x w' => x = .returned (.tuple #[.string ⟨#[]⟩, .iface 25 (.int .i64 1)]) ∧ Below w.heap.size w w' := by
  have bel : Below w.heap.size w (w.alloc (.cells #[.int .i64 q, .string s, .int .i64 g, .string p, .string d] 74)) := (Below.refl _ w).alloc (Nat.le_refl _) _
  have R0 := rightI_any q s g p d (w.alloc (.cells #[.int .i64 q, .string s, .int .i64 g, .string p, .string d] 74))
  rw [h] at R0
  have R := hide R0
  have BL := hide bel
  clear bel R0 h
  go_enter Tryz.func60, Tryz.ntmps60
  go_wp2_with (go_at_call 92; (with_reducible refine R.out.mono ?_); rintro y w1 ⟨rfl, hb1⟩)
  go_ret2
  exact ⟨rfl, BL.out.trans (hb1.mono BL.out.size)⟩
theorem bytesV_u8 (l : List UInt8) (n : Nat) : bytesV l ++ [Value.int .u8 ((n : Int) % 256)] = bytesV (l ++ [u8 n]) := by
  rw [bytesV_app]
  congr 1
theorem bytesV_u82 (l : List UInt8) (n m : Nat) : bytesV l ++ [Value.int .u8 ((n : Int) % 256), Value.int .u8 ((m : Int) % 256)] = bytesV (l ++ [u8 n, u8 m]) := by
  rw [bytesV_app]
  congr 1
theorem bytesV_b (l : List UInt8) {n : Nat} (h : n < 256) : bytesV l ++ [Value.int .u8 (n : Int)] = bytesV (l ++ [u8 n]) := by
  rw [← bytesV_u8, show (n : Int) % 256 = (n : Int) by omega]
theorem bytesV_b2 (l : List UInt8) {n m : Nat} (h : n < 256) (h2 : m < 256) : bytesV l ++ [Value.int .u8 (n : Int), Value.int .u8 (m : Int)] = bytesV (l ++ [u8 n, u8 m]) := by
  rw [← bytesV_u82, show (n : Int) % 256 = (n : Int) by omega, show (m : Int) % 256 = (m : Int) by omega]
theorem bytesV_size (l : List UInt8) {n : Nat} (h : n < 65536) : bytesV l ++ [Value.int .u8 ((n : Int) / 256), Value.int .u8 ((n : Int) % 256)] = bytesV (l ++ sizeL n) := by
  have h1 : (n : Int) / 256 = ((n / 256 : Nat) : Int) := by omega
  have h2 : (n : Int) % 256 = ((n % 256 : Nat) : Int) := by omega
  rw [h1, h2]
  exact bytesV_b2 l (by omega) (by omega)
theorem one_byte (a : Int) : ∀ u ∈ [Value.int .u8 a], u.oneCell' = true := by
  intro u hu
  simp at hu
  rw [hu]; rfl
theorem two_bytes (a b : Int) : ∀ u ∈ [Value.int .u8 a, Value.int .u8 b], u.oneCell' = true := by
  intro u hu
  simp at hu
  rcases hu with hu | hu <;> rw [hu] <;> rfl
set_option maxRecDepth 100000 in
set_option maxHeartbeats 4000000 in
/-- What may be is written. -/
theorem write_ok (r : Rec) (h : RightR r) (w : World) (hK : TabK w) :
    Calls Tryz.prog 60 #[.agg #[.int .i64 (r.q : Int), .string r.s, .int .i64 (r.g : Int), .string r.p, .string r.d]] w fun x w' => x = .returned (.tuple #[.string (tx (wireL r)), .nilIface]) ∧ Below w.heap.size w w' := by
  obtain ⟨i5, hE⟩ := elemB
  have hs10 := nameB_len h.s
  have fit : Fit r := ⟨by have := h.q2; omega, by have := h.g; omega, by omega, by have := h.p; omega, by have := h.d; omega⟩
  have bel : Below w.heap.size w (w.alloc (.cells #[.int .i64 (r.q : Int), .string r.s, .int .i64 (r.g : Int), .string r.p, .string r.d] 74)) := (Below.refl _ w).alloc (Nat.le_refl _) _
  have E0 := hide (HasR.new w 74 #[.int .i64 (r.q : Int), .string r.s, .int .i64 (r.g : Int), .string r.p, .string r.d])
  have BL := hide bel
  have KK := hide (fun wx (hb : Below w.heap.size w wx) => hK.below hb hK.lt)
  have R := hide (fun wx => (by have := rightI_any r.q r.s r.g r.p r.d wx; rw [show rightI r.q r.s r.g r.p r.d = true from rightRB_iff.2 h] at this; exact this : Calls Tryz.prog 92 #[.agg #[.int .i64 (r.q : Int), .string r.s, .int .i64 (r.g : Int), .string r.p, .string r.d]] wx fun x w' => x = .returned (.bool true) ∧ Below wx.heap.size wx w'))
  have MK := hide (fun wx (hk : TabK wx) => markRec_any r wx fit hk)
  have HMS := hide (markR_size r)
  have hp16 := h.p
  have hq100 := h.q2
  have hg100 := h.g
  have hd416 := h.d
  have HW : Hid (wireL r = (markR r).data.toList ++ (u8 r.q :: u8 r.s.size :: (r.s.data.toList ++ (u8 r.g :: (r.p.data.toList ++ (sizeL r.d.size ++ r.d.data.toList)))))) := rfl
  generalize markR r = ma at MK HMS HW
  generalize wireL r = WL at HW ⊢
  clear bel fit h hK
  obtain ⟨q, s, g, p, d⟩ := r
  simp only at *
  go_enter Tryz.func60, Tryz.ntmps60
  go_upto_region 1 with fail
  generalize w.alloc (.cells #[.int .i64 (q : Int), .string s, .int .i64 (g : Int), .string p, .string d] 74) = W1 at E0 BL ⊢
  have e0 : W1.cell? ⟨w.heap.size, 0, none⟩ = some (.int .i64 (q : Int)) := E0.out.cell 0
  have e1 : W1.cell? ⟨w.heap.size, 1, none⟩ = some (.string s) := E0.out.cell 1
  have e2 : W1.cell? ⟨w.heap.size, 2, none⟩ = some (.int .i64 (g : Int)) := E0.out.cell 2
  have e3 : W1.cell? ⟨w.heap.size, 3, none⟩ = some (.string p) := E0.out.cell 3
  have e4 : W1.cell? ⟨w.heap.size, 4, none⟩ = some (.string d) := E0.out.cell 4
  have lw := E0.out.lt
  have CC := hide (fun wx (hb : Below W1.heap.size W1 wx) => (show wx.cell? ⟨w.heap.size, 0, none⟩ = some (.int .i64 (q : Int)) ∧ wx.cell? ⟨w.heap.size, 1, none⟩ = some (.string s) ∧ wx.cell? ⟨w.heap.size, 2, none⟩ = some (.int .i64 (g : Int)) ∧ wx.cell? ⟨w.heap.size, 3, none⟩ = some (.string p) ∧ wx.cell? ⟨w.heap.size, 4, none⟩ = some (.string d) from ⟨(E0.out.below hb lw).cell 0, (E0.out.below hb lw).cell 1, (E0.out.below hb lw).cell 2, (E0.out.below hb lw).cell 3, (E0.out.below hb lw).cell 4⟩))
  go_upto_region 4 with (first
    | (go_at_call 92; (with_reducible refine (R.out _).mono ?_); rintro y w2 ⟨rfl, hb2⟩
       have B2 := hide hb2
       obtain ⟨a0, a1, a2, a3, a4⟩ := CC.out _ hb2
       have MD := hide (MK.out w2 (KK.out _ (BL.out.trans (hb2.mono BL.out.size))))
       clear hb2)
    | (go_at_call 58; (with_reducible refine MD.out.mono ?_); rintro y w3 ⟨rfl, hb3⟩
       have B3 := hide (B2.out.trans (hb3.mono B2.out.size))
       clear hb3)
    | ((with_reducible refine conv_in ma ?_ ?_); rfl; intro cap w4 hr4 hg4 hz4))
  have hsz3 := B3.out.size
  have R4 := hide (hr4.mono hsz3)
  have B4 := hide (B3.out.grown hg4 hsz3 (fun k e => by cases e))
  clear hr4 hg4
  have hma := HMS.out
  obtain ⟨a0, a1, a2, a3, a4⟩ := CC.out _ B4.out
  have hl4 := B4.out.size
  have n4 : ma.size + 2 ≤ 1000000 := by omega
  clear hma hz4
  go_upto_region 5 with (at_builtin; refine append_br 5 hE W1.heap.size _ ma.size (bytesV ma.data.toList) ⟨w4.heap.size, 0, none⟩ 2 2 [.int .u8 (q : Int), .int .u8 (s.size : Int)] rfl rfl (BRn.of (R4.out.alloc _)) rfl (by omega) (news_blk (HasR.new w4 5 #[.int .u8 (q : Int), .int .u8 (s.size : Int)])) (two_bytes _ _) n4 (by simp; omega) ?_; intro g5 cap5 w5 hr5 hg5 hl5 hb5; rw [bytesV_b2 _ (by omega) (by omega)] at hr5; have R5 := hide hr5; have B5 := hide ((B4.out.alloc hl4 (.cells #[.int .u8 (q : Int), .int .u8 (s.size : Int)] 5)).trans hb5); clear hr5 hg5 hl5 hb5)
  clear a0 a1 a2 a3 a4 R4
  obtain ⟨a0, a1, a2, a3, a4⟩ := CC.out _ B5.out
  have hl5 := B5.out.size
  have n5 : ma.size + 2 + s.size ≤ 1000000 := by have := HMS.out; omega
  go_upto_region 6 with (at_builtin; refine append_str hE W1.heap.size g5 (ma.size + 2) cap5 (ma.data.toList ++ [u8 q, u8 s.size]) s rfl rfl R5.out n5 hl5 ?_; intro g6 cap6 w6 hr6 hb6; have R6 := hide hr6; have B6 := hide (B5.out.trans hb6); clear hr6 hb6)
  clear a0 a1 a2 a3 a4 R5
  obtain ⟨a0, a1, a2, a3, a4⟩ := CC.out _ B6.out
  have hl6 := B6.out.size
  have n6 : ma.size + 2 + s.size + 1 ≤ 1000000 := by have := HMS.out; omega
  go_upto_region 7 with (at_builtin; refine append_br 5 hE W1.heap.size _ (ma.size + 2 + s.size) (bytesV (ma.data.toList ++ [u8 q, u8 s.size] ++ s.data.toList)) ⟨w6.heap.size, 0, none⟩ 1 1 [.int .u8 (g : Int)] rfl rfl (BRn.of (R6.out.alloc _)) rfl (by omega) (news_blk (HasR.new w6 5 #[.int .u8 (g : Int)])) (one_byte _) n6 (by simp; omega) ?_; intro g7 cap7 w7 hr7 hg7 hl7 hb7; rw [bytesV_b _ (by omega)] at hr7; have R7 := hide hr7; have B7 := hide ((B6.out.alloc hl6 (.cells #[.int .u8 (g : Int)] 5)).trans hb7); clear hr7 hg7 hl7 hb7)
  clear a0 a1 a2 a3 a4 R6
  obtain ⟨a0, a1, a2, a3, a4⟩ := CC.out _ B7.out
  have hl7 := B7.out.size
  have n7 : ma.size + 2 + s.size + 1 + p.size ≤ 1000000 := by have := HMS.out; omega
  have HP := hide hp16
  clear hp16
  go_upto_region 8 with (at_builtin; refine append_str hE W1.heap.size g7 (ma.size + 2 + s.size + 1) cap7 (ma.data.toList ++ [u8 q, u8 s.size] ++ s.data.toList ++ [u8 g]) p rfl rfl R7.out n7 hl7 ?_; intro g8 cap8 w8 hr8 hb8; have R8 := hide hr8; have B8 := hide (B7.out.trans hb8); clear hr8 hb8)
  clear a0 a1 a2 a3 a4 R7
  obtain ⟨a0, a1, a2, a3, a4⟩ := CC.out _ B8.out
  have hl8 := B8.out.size
  have n8 : ma.size + 2 + s.size + 1 + p.size + 2 ≤ 1000000 := by have := HMS.out; have := HP.out; omega
  go_upto_region 9 with (at_builtin; refine append_br 5 hE W1.heap.size _ (ma.size + 2 + s.size + 1 + p.size) (bytesV (ma.data.toList ++ [u8 q, u8 s.size] ++ s.data.toList ++ [u8 g] ++ p.data.toList)) ⟨w8.heap.size, 0, none⟩ 2 2 [.int .u8 ((d.size : Int) / 256), .int .u8 ((d.size : Int) % 256)] rfl rfl (BRn.of (R8.out.alloc _)) rfl (by omega) (news_blk (HasR.new w8 5 #[.int .u8 ((d.size : Int) / 256), .int .u8 ((d.size : Int) % 256)])) (two_bytes _ _) n8 (by simp; omega) ?_; intro g9 cap9 w9 hr9 hg9 hl9 hb9; rw [bytesV_size _ (by omega)] at hr9; have R9 := hide hr9; have B9 := hide ((B8.out.alloc hl8 (.cells #[.int .u8 ((d.size : Int) / 256), .int .u8 ((d.size : Int) % 256)] 5)).trans hb9); clear hr9 hg9 hl9 hb9)
  clear a0 a1 a2 a3 a4 R8
  obtain ⟨a0, a1, a2, a3, a4⟩ := CC.out _ B9.out
  have hl9 := B9.out.size
  have n9 : ma.size + 2 + s.size + 1 + p.size + 2 + d.size ≤ 1000000 := by have := HMS.out; have := HP.out; omega
  go_wp2_with (first
    | (at_builtin; refine append_str hE W1.heap.size g9 (ma.size + 2 + s.size + 1 + p.size + 2) cap9 (ma.data.toList ++ [u8 q, u8 s.size] ++ s.data.toList ++ [u8 g] ++ p.data.toList ++ sizeL d.size) d rfl rfl R9.out n9 hl9 ?_; intro g10 cap10 w10 hr10 hb10; have R10 := hide hr10; have B10 := hide (B9.out.trans hb10); clear hr10 hb10)
    | ((with_reducible refine conv_out g10 (ma.size + 2 + s.size + 1 + p.size + 2 + d.size) cap10 (ma.data.toList ++ [u8 q, u8 s.size] ++ s.data.toList ++ [u8 g] ++ p.data.toList ++ sizeL d.size ++ d.data.toList) ?_ R10.out ?_); rfl))
  go_ret2
  exact ⟨by rw [HW.out]; rfl, BL.out.trans (B10.out.mono BL.out.size)⟩
end Go.Proofs.YtdjpghgnjcmdnaaGreatDoor

/- The order 'wire'. -/
namespace Go.Proofs.YtdjpghgnjcmdnaaGreatDoor
open Go.RowKit Go.Shelf Go.Sort Go.Maps
set_option linter.unusedSectionVars false
variable [Inhabited LowT]
variable [Inhabited Cl] [Inhabited Ev]
attribute [local go_sem ↓] Go.wp_at_zero Go.wp_at_succ
theorem rec_body {sec : ByteArray} {σ : Kept} {e : Ev} {r : Rec} {lost : Bool} (h : RecOf sec σ e r lost) : r.d.size ≤ 416 := by
  have ht := text_size h.right
  by_cases hk : e.k = 3
  · rw [h.opn hk]
    omega
  · rw [h.sl hk, sealB_size]
    omega
theorem desk_right {sec : ByteArray} {st : Hst} (hd : Did sec st) (hσ : ∀ l, (st.σ l).1 ≤ st.ok.length) (hn : st.ok.length ≤ 100) : ∀ r ∈ st.rs, RightR r := by
  intro r hr
  obtain ⟨hl, hall⟩ := hd.recs
  obtain ⟨i, hi, rfl⟩ := List.getElem_of_mem hr
  have hi2 : i < st.ok.length := by omega
  obtain ⟨hO, hq, hp⟩ := hall i hi2
  have hg : st.rs.getD i recZ = st.rs[i] := by rw [List.getD_eq_getElem?_getD, List.getElem?_eq_getElem hi]; rfl
  rw [hg] at hO hq hp
  refine ⟨by omega, by omega, ?_, ?_, by rw [hp]; exact headR_size _, rec_body hO⟩
  · rw [hO.sub]; exact (subj_size hO.right).2
  · by_cases hk : (st.ok.getD i ev0).k = 3
    · rw [hO.gen.2 hk]; omega
    · have h1 : st.rs[i].g ≤ (st.σ st.rs[i].s.data.toList).1 := by
        cases hL : lostB (st.ok.drop (i + 1)) (st.ok.getD i ev0).s
        · rw [hO.there hk hL]; exact Nat.le_refl _
        · exact (hO.left hk hL).1
      have := hσ st.rs[i].s.data.toList
      omega
theorem wire_le {r : Rec} (h : RightR r) : (wireL r).length ≤ 500 := by
  have h1 := nameB_len h.s
  have h2 := h.p
  have h3 := h.d
  rw [wireL_len]
  omega
theorem write_text (r : Rec) (h : RightR r) (w : World) (hK : TabK w) :
    Calls Tryz.prog 60 #[.agg #[.int .i64 (r.q : Int), .string r.s, .int .i64 (r.g : Int), .string r.p, .string r.d]] w fun x w' => x = .returned (.tuple #[.string (textL (wireL r)), .nilIface]) ∧ Below w.heap.size w w' := write_ok r h w hK
set_option maxRecDepth 100000 in
set_option maxHeartbeats 4000000 in
theorem cmd_wire : CmdOk 23 (arOf (1)) := by
  intro db s w x v xs z hD hc hV hP hsz har hz
  obtain ⟨κ, B, ob, sb, fb, vb, mt, mv, vf, rm, ρ, c3, c4, c5, c6, h⟩ := hD
  obtain ⟨hP1, p, cp, rfl, hcp⟩ := hP
  have hx := (size_words hsz).1
  have X0 := hide (HasR.new w 65 #[.string x, .slice p xs.length cp, .int .i64 z])
  have B0 := hide ((Below.refl w.heap.size w).alloc (Nat.le_refl _) (.cells #[.string x, .slice p xs.length cp, .int .i64 z] 65))
  obtain ⟨W, hW⟩ : ∃ W, w.alloc (.cells #[.string x, .slice p xs.length cp, .int .i64 z] 65) = W := ⟨_, rfl⟩
  rw [hW] at X0 B0
  have HW := hide hW
  have HD := hide (h.still B0.out)
  have h11 := hV.n
  have _hk11 := lowK_le
  have HV := hide (hV.low (B0.out.mono h11) B0.out.size)
  have hlS : s.h.ok.length ≤ 100 := h.good.len
  have hrl : s.h.rs.length = s.h.ok.length := h.good.did.both
  have VB : Hid (∀ wx, Below W.heap.size W wx → Vars wx) := hide fun wx hb => HV.out.low (hb.mono HV.out.n) hb.size
  have KB : Hid (∀ wx, Below W.heap.size W wx → wx.cell? ⟨w.heap.size, 0, none⟩ = some (.string x) ∧ wx.cell? ⟨w.heap.size, 1, none⟩ = some (.slice p xs.length cp) ∧ wx.cell? ⟨w.heap.size, 2, none⟩ = some (.int .i64 z) ∧ wx.cell? ⟨db, 1, none⟩ = some (.pointer (some ⟨sb, 0, none⟩))) := hide fun wx hb =>
    have X := X0.out.below hb X0.out.lt
    ⟨X.cell 0, X.cell 1, X.cell 2, (HD.out.still hb).desk.cell 1⟩
  obtain ⟨k0, k1, k2, k3⟩ := KB.out W (Below.refl _ _)
  have HH := hide h
  have HP := hide hP1
  have LW : Hid (Parts W (.slice p xs.length cp) xs) := hide (hP1.below B0.out rfl)
  clear h hW hP1
  have C47 := hide (srcFeed_any B W sb fb vb mt mv vf s.h.ok.length s.h.ok.length s.sec s.h.σ s.h.τ s.h.rs HD.out.src (by omega))
  have RT := hide (desk_right HH.out.good.did HD.out.src.few hlS)
  clear hsz
  by_cases hbad : z < 1 ∨ (s.h.rs.length : Int) < z
  · have hR : wireR s x z = .inl 7 := by unfold wireR; rw [if_pos hbad]
    have FIN : Hid (∀ wx, Below w.heap.size w wx → OutD db s 23 x xs z w (thrown 7) wx) := hide fun wx bT =>
      ⟨.inl 7, .inr (.inr (.inr (.inr (.inr (.inr (.inr (.inr (.inr (.inl ⟨rfl, hR.symm⟩))))))))), .inl ⟨7, rfl, by omega, rfl, HH.out.same bT⟩, Quiet.of_below bT h11⟩
    clear hR
    by_cases hz1 : z < 1
    · clear hbad
      go_enter Tryz.func23, Tryz.ntmps23
      go_upto_region 1 with fail
      rw [HW.out]
      go_upto_region 3 with (go_at_call 47; (with_reducible refine C47.out.mono ?_); rintro y w3 ⟨u, rfl, hrow, hb3⟩; obtain ⟨p2, cp2, rfl⟩ := ownsRow_slice hrow; have B3 := hide hb3; obtain ⟨a0, a1, a2, a3⟩ := KB.out w3 B3.out; have TH := hide (throw_any 7 w3 (VB.out w3 B3.out).e); clear hrow hb3)
      go_wp2_with (go_at_call 49; (with_reducible refine TH.out.mono ?_); rintro _ w8 ⟨rfl, hb⟩)
      exact ⟨rfl, FIN.out _ (B0.out.trans ((B3.out.trans (hb.mono B3.out.size)).mono B0.out.size))⟩
    · have hz2 : (s.h.rs.length : Int) < z := by omega
      have hz3 : z > (s.h.rs.length : Int) := hz2
      clear hbad
      go_enter Tryz.func23, Tryz.ntmps23
      go_upto_region 1 with fail
      rw [HW.out]
      go_upto_region 3 with (go_at_call 47; (with_reducible refine C47.out.mono ?_); rintro y w3 ⟨u, rfl, hrow, hb3⟩; obtain ⟨p2, cp2, rfl⟩ := ownsRow_slice hrow; have B3 := hide hb3; obtain ⟨a0, a1, a2, a3⟩ := KB.out w3 B3.out; have TH := hide (throw_any 7 w3 (VB.out w3 B3.out).e); clear hrow hb3)
      go_wp2_with (go_at_call 49; (with_reducible refine TH.out.mono ?_); rintro _ w8 ⟨rfl, hb⟩)
      exact ⟨rfl, FIN.out _ (B0.out.trans ((B3.out.trans (hb.mono B3.out.size)).mono B0.out.size))⟩
  · have hz1 : ¬ z < 1 := by omega
    have hz2 : ¬ (s.h.rs.length : Int) < z := by omega
    have hz3 : ¬ z > (s.h.rs.length : Int) := hz2
    obtain ⟨k, hk⟩ : ∃ k : Nat, (z - 1).toNat = k := ⟨_, rfl⟩
    have hkw : IntKind.i64.wrap (z - 1) = (k : Int) := by rw [IntKind.wrap_i64]; omega
    have hk3' : Hid (z - 1 = (k : Int)) := hide (by omega)
    have hkw2' : Hid (IntKind.i64.wrap (k : Int) = (k : Int)) := hide (by rw [IntKind.wrap_i64]; omega)
    have hkw3' : Hid (wrap64 (k : Int) = (k : Int)) := hide (by unfold wrap64; omega)
    have hkl : k < s.h.rs.length := by omega
    have hkl2 : (k : Int) < (s.h.rs.length : Int) := by omega
    have hk0 : (0 : Int) ≤ (k : Int) := by omega
    have hR : wireR s x z = toldR x [hexL (wireL (s.h.rs.getD k recZ))] s := by unfold wireR; rw [if_neg hbad, hk]
    have hrt : RightR (s.h.rs.getD k recZ) := RT.out _ (getD_mem hkl)
    have HR := hide (fun _ : Unit => hR)
    clear hbad hk hR
    have hwl := wire_le hrt
    have C60 := hide (fun wx (hb : Below W.heap.size W wx) => write_text (s.h.rs.getD k recZ) hrt wx (VB.out wx hb).k)
    have C57 := hide (fun wx => hex_text (wireL (s.h.rs.getD k recZ)) wx (by omega))
    have hhl := hexL_len (wireL (s.h.rs.getD k recZ))
    have M59 := hide must59_ok
    obtain ⟨rec, hrec⟩ : ∃ rec, s.h.rs.getD k recZ = rec := ⟨_, rfl⟩
    rw [hrec] at C60 C57 HR hwl hhl
    have HREC := hide (fun _ : Unit => hrec)
    clear hrt hrec hrl
    generalize wireL rec = wl at C60 C57 HR hwl hhl
    generalize hexL wl = hx4 at C57 HR hhl
    go_enter Tryz.func23, Tryz.ntmps23
    go_upto_region 1 with fail
    rw [HW.out]
    go_upto_region 4 with (go_at_call 47; (with_reducible refine C47.out.mono ?_); rintro y w3 ⟨u, rfl, hrow, hb3⟩; obtain ⟨p2, cp2, rfl⟩ := ownsRow_slice hrow; have B3 := hide hb3; obtain ⟨a0, a1, a2, a3⟩ := KB.out w3 B3.out; have ROW := hide hrow; clear hrow hb3)
    obtain ⟨g3, rfl, hg3, hcap, e0, e1, e2, e3, e4⟩ := recs_at ROW.out hkl
    rw [HREC.out ()] at e0 e1 e2 e3 e4
    have KR : Hid (∀ wx, Below w3.heap.size w3 wx → wx.cell? ⟨w.heap.size, 0, none⟩ = some (.string x) ∧ wx.cell? ⟨w.heap.size, 2, none⟩ = some (.int .i64 z) ∧ wx.cell? ⟨g3, k * 5, none⟩ = some (.int .i64 (rec.q : Int)) ∧ wx.cell? ⟨g3, k * 5 + 1, none⟩ = some (.string rec.s) ∧ wx.cell? ⟨g3, k * 5 + 2, none⟩ = some (.int .i64 (rec.g : Int)) ∧ wx.cell? ⟨g3, k * 5 + 3, none⟩ = some (.string rec.p) ∧ wx.cell? ⟨g3, k * 5 + 4, none⟩ = some (.string rec.d)) := hide (fun wx hb =>
      have a := KB.out wx (B3.out.trans (hb.mono B3.out.size))
      have q : ∀ o, wx.cell? ⟨g3, o, none⟩ = w3.cell? ⟨g3, o, none⟩ := fun o => World.cell?_of_block (hb.block g3 hg3)
      ⟨a.1, a.2.2.1, (q _).trans e0, (q _).trans e1, (q _).trans e2, (q _).trans e3, (q _).trans e4⟩)
    have hk3 := hk3'.out
    have hkw2 := hkw2'.out
    have hkw3 := hkw3'.out
    have K4 := hide (KR.out w3.drew (Below.refl _ w3).drew)
    clear k0 k1 k2 k3 a1 a3
    go_region_held3 (fun wx => wx.cell? ⟨w.heap.size, 0, none⟩ = some (.string x) ∧ wx.cell? ⟨w.heap.size, 2, none⟩ = some (.int .i64 z) ∧ wx.cell? ⟨g3, k * 5, none⟩ = some (.int .i64 (rec.q : Int)) ∧ wx.cell? ⟨g3, k * 5 + 1, none⟩ = some (.string rec.s) ∧ wx.cell? ⟨g3, k * 5 + 2, none⟩ = some (.int .i64 (rec.g : Int)) ∧ wx.cell? ⟨g3, k * 5 + 3, none⟩ = some (.string rec.p) ∧ wx.cell? ⟨g3, k * 5 + 4, none⟩ = some (.string rec.d)) (first | (with_reducible exact K4.out) | (with_reducible exact K5.out) | (with_reducible exact K6.out) | (with_reducible exact K7.out) | (with_reducible exact K9.out) | go_keep)
      (first
      | (go_at_call 60; (with_reducible refine (C60.out _ (B3.out.trans (Below.refl _ w3).drew)).mono ?_); rintro y w5 ⟨rfl, hb5⟩; have B5 := hide (below_of_drew hb5); have K5 := hide (KR.out w5 B5.out); clear hb5)
      | (go_at_call 59; (with_reducible refine (M59.out _ _).mono ?_); rintro y w6 ⟨rfl, hw⟩; obtain rfl := hw.symm)
      | (go_at_call 57; (with_reducible refine (C57.out _).mono ?_); rintro y w6 ⟨rfl, hb6⟩; have B6 := hide (B5.out.trans (hb6.mono B5.out.size)); have K6 := hide (KR.out w6 B6.out); have K9 := hide (KR.out (w6.alloc (.cells #[.string (textL hx4)] 9)) (B6.out.alloc B6.out.size _)); have C12 := hide (tell_one x hx4 w6 hx (by omega)); clear hb6)
      | (go_at_call 12; (with_reducible refine C12.out.mono ?_); rintro y w7 ⟨rfl, hb7⟩; have B7 := hide (B6.out.trans (hb7.mono B6.out.size)); have K7 := hide (KR.out w7 B7.out); clear hb7))
    go_wp2
    go_ret
    have bT : Below w.heap.size w w7 := B0.out.trans ((B3.out.trans (B7.out.mono B3.out.size)).mono B0.out.size)
    refine ⟨toldR x [hx4] s, .inr (.inr (.inr (.inr (.inr (.inr (.inr (.inr (.inr (.inl ⟨rfl, (HR.out ()).symm⟩))))))))), .inr ⟨_, _, rfl, rfl, told_one hx (by omega), HH.out.same bT⟩, Quiet.of_below bT h11⟩
end Go.Proofs.YtdjpghgnjcmdnaaGreatDoor
