/- Texts of this proof, one behind the other. -/
import Derived.RangeFuncBox
import Derived.Test.YtjobghphjkeohaaDoorPart16
/- The document's first, of any text. -/
namespace Go.Proofs.YtjobghphjkeohaaDoor
open Go.RowKit
theorem tx_piece (l : List UInt8) (i n : Nat) : (tx l).extract i (i + n) = tx ((l.drop i).take n) := by
  apply ByteArray.ext
  rw [ByteArray.data_extract]
  apply Array.toList_inj.1
  rw [Array.toList_extract]
  show List.extract l i (i + n) = (l.drop i).take n
  simp [List.extract]
theorem tx_slice (l : List UInt8) (i n : Nat) (h : i + n ≤ l.length) (w : World) : (Instr.slice 9 (.string (tx l)) (some (.int .i64 (i : Int))) (some (.int .i64 ((i + n : Nat) : Int))) none).run Tryd.prog w = .ok (.string (tx ((l.drop i).take n))) w := by
  have hsz : (tx l).size = l.length := rfl
  rw [run_slice_string w 9 (tx l) .i64 .i64 (i : Int) ((i + n : Nat) : Int) Tryd.underlying9 (by omega) (by omega) (by omega), ← tx_piece]
  rfl
theorem wrap_n (n : Nat) (h : n < 100000000) : IntKind.i64.wrap (n : Int) = (n : Int) := by
  rw [IntKind.wrap_i64]; omega
theorem firstAt_of (l : List UInt8) (n : Nat) (hn : n = (l.getD 17 0).toNat) (h1 : 37 + n ≤ l.length) :
    FirstAt (tx l) n (18 + n) (19 + n) (35 + n) (36 + n) (l.getD 16 0).toNat (l.getD (18 + n) 0).toNat (l.getD (35 + n) 0).toNat (l.getD (36 + n) 0).toNat ((l.getD (35 + n) 0).toNat * 256) ((l.getD (35 + n) 0).toNat * 256 + (l.getD (36 + n) 0).toNat) (tx ((l.drop 18).take n)) (tx ((l.drop (19 + n)).take 16)) := by
  have b0 := byte_lt (l.getD 17 0)
  have b1 := byte_lt (l.getD (35 + n) 0)
  have b2 := byte_lt (l.getD (36 + n) 0)
  have b3 := byte_lt (l.getD 16 0)
  have b4 := byte_lt (l.getD (18 + n) 0)
  have i17 := fun w => tx_byte l 17 (by omega) w
  rw [← hn] at i17 b0
  exact {
    i17 := i17
    i16 := fun w => tx_byte l 16 (by omega) w
    ik := fun w => tx_byte l (18 + n) (by omega) w
    ik17 := fun w => tx_byte l (35 + n) (by omega) w
    ik18 := fun w => tx_byte l (36 + n) (by omega) w
    c1 := fun w => tx_slice l 18 n (by omega) w
    c2 := fun w => by
      have := tx_slice l (19 + n) 16 (by omega) w
      rw [show 19 + n + 16 = 35 + n by omega] at this
      exact this
    hk := by omega
    w1 := by rw [show ((18 + n : Nat) : Int) + 1 = ((19 + n : Nat) : Int) by omega]; exact wrap_n _ (by omega)
    w17 := by rw [show ((18 + n : Nat) : Int) + 17 = ((35 + n : Nat) : Int) by omega]; exact wrap_n _ (by omega)
    w18 := by rw [show ((18 + n : Nat) : Int) + 18 = ((36 + n : Nat) : Int) by omega]; exact wrap_n _ (by omega)
    v1 := by rw [show (((l.getD (35 + n) 0).toNat : Nat) : Int) * 256 = (((l.getD (35 + n) 0).toNat * 256 : Nat) : Int) by omega]; exact wrap_n _ (by omega)
    v2 := by rw [← Int.natCast_add]; exact wrap_n _ (by omega)
    bq := wrap_n _ (by omega)
    bg := wrap_n _ (by omega)
    b1 := wrap_n _ (by omega)
    b2 := wrap_n _ (by omega)
    ln := b0
    lk := by omega
    lm := by omega }
theorem refFirst_any (b : Nat) (l : List UInt8) (w : World) (hR : RefR w b) : Calls Tryd.prog 26 #[.pointer (some ⟨b, 0, none⟩), .string (tx l)] w fun x w' => x = .returned (firstV l) ∧ Below w.heap.size w w' := by
  by_cases h1 : l.length < 18
  · exact refFirst_far1 b l w h1
  by_cases h2 : l.length < 37 + (l.getD 17 0).toNat
  · exact refFirst_far2 b l w (by omega) h2
  obtain ⟨n, hn⟩ : ∃ n, n = (l.getD 17 0).toNat := ⟨_, rfl⟩
  rw [← hn] at h2
  have F := firstAt_of l n hn (by omega)
  have hcut := cut_reach l n _ hn (by omega) rfl
  have b0 := byte_lt (l.getD 17 0)
  have b1 := byte_lt (l.getD (35 + n) 0)
  have b2 := byte_lt (l.getD (36 + n) 0)
  have hsz : (tx l).size = l.length := rfl
  by_cases h3 : l.length < 37 + n + ((l.getD (35 + n) 0).toNat * 256 + (l.getD (36 + n) 0).toNat)
  · rw [firstV_none (first_far3 hn (by omega) h3)]
    exact refFirst_cut b (tx l) l.length n _ _ _ _ _ _ _ _ _ _ _ _ w hsz F (by omega) (by omega)
  generalize hm1 : (l.getD (35 + n) 0).toNat = m1 at F hcut h3 b1
  generalize hm2 : (l.getD (36 + n) 0).toNat = m2 at F hcut h3 b2
  generalize (l.getD 16 0).toNat = q at F hcut
  generalize (l.getD (18 + n) 0).toNat = g at F hcut
  have c3 := fun w => tx_slice l (37 + n) (m1 * 256 + m2) (by omega) w
  have hs : (tx ((l.drop 18).take n)).size ≤ 1000 := by
    rw [tx_size, List.length_take]
    omega
  generalize tx ((l.drop 18).take n) = s at F hcut hs
  generalize tx ((l.drop (19 + n)).take 16) = p at F hcut
  generalize tx ((l.drop (37 + n)).take (m1 * 256 + m2)) = d at c3 hcut
  have h19 : ((18 + n : Nat) : Int) + 19 = ((37 + n : Nat) : Int) := by omega
  have hkm : ((37 + n : Nat) : Int) + ((m1 * 256 + m2 : Nat) : Int) = ((37 + n + (m1 * 256 + m2) : Nat) : Int) := by omega
  cases hr : rightRB (cutL l) with
  | false =>
    have hf : firstL l = none := by
      unfold firstL
      rw [if_neg (fun h => by rw [hr] at h; cases h.1)]
    rw [firstV_none hf]
    rw [hcut] at hr
    exact refFirst_full b (tx l) l.length n _ _ _ _ _ _ q g m1 m2 _ _ s p d ⟨#[]⟩ 1 (preB (tx l) ⟨#[]⟩) _ w hsz F h19 hkm (by omega) hR c3 (fun wx _ => refWrite_bad b (q : Int) s (g : Int) p d wx hs hr) (fun wx => hasPrefix_any (tx l) ⟨#[]⟩ wx) (.inl ⟨rfl, rfl⟩)
  | true =>
    have hR1 : RightR (cutL l) := rightRB_iff.1 hr
    have hW := fun wx (hk : RefR wx b) => refWrite_ok b (cutL l) hR1 wx hk
    by_cases hp : wireL (cutL l) <+: l
    · have hf : firstL l = some (cutL l) := by
        unfold firstL
        rw [if_pos ⟨hr, hp⟩]
      rw [firstV_some hf]
      have hP := fun wx => hasPrefix_any (tx l) (tx (wireL (cutL l))) wx
      rw [show preB (tx l) (tx (wireL (cutL l))) = true from decide_eq_true hp] at hP
      have hZ : (tx (wireL (cutL l))).size = (wireL (cutL l)).length := rfl
      generalize wireL (cutL l) = WL at hW hP hZ ⊢
      rw [hcut] at hW ⊢
      unfold recV
      rw [← hZ]
      exact refFirst_full b (tx l) l.length n _ _ _ _ _ _ q g m1 m2 _ _ s p d (tx WL) 0 true _ w hsz F h19 hkm (by omega) hR c3 hW hP (.inr (.inr ⟨rfl, rfl, rfl⟩))
    · have hf : firstL l = none := by
        unfold firstL
        rw [if_neg (fun h => hp h.2)]
      rw [firstV_none hf]
      have hP := fun wx => hasPrefix_any (tx l) (tx (wireL (cutL l))) wx
      rw [show preB (tx l) (tx (wireL (cutL l))) = false from decide_eq_false hp] at hP
      generalize wireL (cutL l) = WL at hW hP
      rw [hcut] at hW
      exact refFirst_full b (tx l) l.length n _ _ _ _ _ _ q g m1 m2 _ _ s p d (tx WL) 0 false _ w hsz F h19 hkm (by omega) hR c3 hW hP (.inr (.inl ⟨rfl, rfl, rfl⟩))
end Go.Proofs.YtjobghphjkeohaaDoor

/- Records in a row. -/
namespace Go.Proofs.YtjobghphjkeohaaDoor
open Go.RowKit
def recZ : Rec := ⟨0, ⟨#[]⟩, 0, ⟨#[]⟩, ⟨#[]⟩⟩
def recsL (rs : List Rec) : List Value := rs.flatMap recL
theorem recsL_snoc (rs : List Rec) (r : Rec) : recsL (rs ++ [r]) = recsL rs ++ recL r := by simp [recsL]
theorem recsL_at : ∀ (rs : List Rec) (j i : Nat), j < rs.length → i < 5 → (recsL rs)[j * 5 + i]? = (recL (rs.getD j recZ))[i]?
  | [], j, i, h, _ => by simp at h
  | r :: rs, 0, i, _, hi => by
    have e1 : recsL (r :: rs) = recL r ++ recsL rs := rfl
    rw [e1, Nat.zero_mul, Nat.zero_add, List.getElem?_append_left (by exact hi)]
    rfl
  | r :: rs, j + 1, i, h, hi => by
    have e1 : recsL (r :: rs) = recL r ++ recsL rs := rfl
    have ih := recsL_at rs j i (by simpa using h) hi
    have e2 : (j + 1) * 5 + i = 5 + (j * 5 + i) := by omega
    rw [e1, e2, List.getElem?_append_right (by simp [recL])]
    have e3 : (r :: rs).getD (j + 1) recZ = rs.getD j recZ := by simp
    rw [e3, ← ih]
    congr 1
    simp [recL]
end Go.Proofs.YtjobghphjkeohaaDoor

/- All: the document's own way. -/
namespace Go.Proofs.YtjobghphjkeohaaDoor
open Go.RowKit
attribute [local go_sem ↓] Go.wp_at_zero Go.wp_at_succ
/-- These records stand at the text's beginning. -/
structure Come (l : List UInt8) (rs : List Rec) : Prop where
  right : ∀ r ∈ rs, RightR r
  stands : l = wiresL rs ++ l.drop (wiresL rs).length
  few : rs.length ≤ (wiresL rs).length
theorem Come.start (l : List UInt8) : Come l [] := ⟨fun r h => by simp at h, rfl, Nat.le_refl _⟩
theorem Come.le {l : List UInt8} {rs : List Rec} (h : Come l rs) : (wiresL rs).length ≤ l.length := by
  have := congrArg List.length h.stands
  rw [List.length_append] at this
  omega
theorem Come.len {rs : List Rec} {r : Rec} : (wiresL (rs ++ [r])).length = (wiresL rs).length + (wireL r).length := by rw [wiresL_snoc, List.length_append]
theorem Come.step {l : List UInt8} {rs : List Rec} {r : Rec} (h : Come l rs) (hf : firstL (l.drop (wiresL rs).length) = some r) : Come l (rs ++ [r]) := by
  obtain ⟨hr, more, hm⟩ := first_some hf
  have hne := wireL_ne r
  have hfew := h.few
  refine ⟨fun x hx => ?_, ?_, ?_⟩
  · rw [List.mem_append] at hx
    rcases hx with hx | hx
    · exact h.right x hx
    · rw [List.mem_singleton] at hx; rw [hx]; exact hr
  · rw [Come.len, wiresL_snoc, List.append_assoc, ← List.drop_drop, hm, List.drop_left, ← hm]
    exact h.stands
  · rw [Come.len, List.length_append, List.length_singleton]; omega
theorem Come.all {l : List UInt8} {rs : List Rec} (h : Come l rs) (hf : firstL (l.drop (wiresL rs).length) = none) : AllAt l rs := ⟨h.right, _, h.stands, hf⟩
theorem row_still {w w' : World} {base n : Nat} {e : TypeId} {size : Nat} {v : Value} {xs : List Value} (h : w.ownsRow base e size v n xs) (k : Below w.heap.size w w') : w'.ownsRow base e size v n xs := by
  refine h.kept (row := none) ⟨k.os, k.tape, k.output, k.size, fun j hj _ => k.block j hj⟩ ?_
  cases v.ownBlock with
  | none => exact .inl rfl
  | some g => exact .inr (fun e1 => by cases e1)
theorem info23r : (Tryd.prog.info? 23).map (fun i => (i.zero, i.size, i.bytes)) = some (some (recV recZ), 5, 64) := by kernel_rfl
set_option maxRecDepth 100000 in
set_option maxHeartbeats 4000000 in
theorem refAll_any (b : Nat) (l : List UInt8) (hl : l.length ≤ 100000) (w : World) (hR : RefR w b) : Calls Tryd.prog 13 #[.pointer (some ⟨b, 0, none⟩), .string (tx l)] w fun x w' => ∃ (v : Value) (rs : List Rec), x = .returned (.tuple #[v, .int .i64 ((wiresL rs).length : Int)]) ∧ AllAt l rs ∧ w'.ownsRow w.heap.size 23 5 v rs.length (recsL rs) ∧ Below w.heap.size w w' := by
  obtain ⟨i0, hi, hz0, hz1, hz2⟩ := info_parts info23r
  have hsz : (tx l).size = l.length := rfl
  have KK := hide (fun wx (hb : Below w.heap.size w wx) => hR.below hb hR.lt)
  have F0 := hide (fun n wx (hk : RefR wx b) => refFirst_any b (l.drop n) wx hk)
  clear hR
  go_enter Tryd.func13, Tryd.ntmps13
  go_wp2
  go_loopw [6, 7] (fun v i wr => ∃ (rs : List Rec) (u : Value), v = u ∧ i = .int .i64 ((wiresL rs).length : Int) ∧ Come l rs ∧ wr.ownsRow w.heap.size 23 5 u rs.length (recsL rs) ∧ Below w.heap.size w wr) (fun _ i _ => l.length - (intOf i).toNat)
  case atStart => exact ⟨[], _, rfl, rfl, Come.start l, World.ownsRow_nil _ _ _ _, Below.refl _ w⟩
  case round =>
    obtain ⟨rs, u, rfl, rfl, hC, hrow, hb⟩ := hrel
    have HC := hide hC
    have hle := hC.le
    have hfew := hC.few
    obtain ⟨n, hn⟩ : ∃ n, (wiresL rs).length = n := ⟨_, rfl⟩
    have HN := hide hn
    have F1 := F0.out n wr (KK.out _ hb)
    rw [hn] at hle hfew ⊢
    have hd := tx_drop l n
    have hbs := hb.size
    have g1 : (n : Int) ≤ (l.length : Int) := by omega
    have RW := hide hrow
    have BW := hide hb
    cases hf : firstL (l.drop n) with
    | none =>
      rw [firstV_none hf] at F1
      have F := hide F1
      have HF := hide hf
      clear F1 hf hC hrow hb hn
      go_wp2_with (go_at_call 26; (with_reducible refine F.out.mono ?_); rintro y w1 ⟨rfl, hb1⟩; have B1 := hide hb1; clear hb1)
      go_ret2
      have B2 := B1.out.alloc B1.out.size (.cells #[.int .i64 0, .string ⟨#[]⟩, .int .i64 0, .string ⟨#[]⟩, .string ⟨#[]⟩] 23)
      exact ⟨u6, rs, by rw [HN.out]; rfl, HC.out.all (by rw [HN.out]; exact HF.out), row_still RW.out B2, BW.out.trans (B2.mono BW.out.size)⟩
    | some r =>
      rw [firstV_some hf] at F1
      unfold recV at F1
      have hst := hC.step (by rw [hn]; exact hf)
      have hlt := hst.le
      rw [Come.len, hn] at hlt
      have hne := wireL_ne r
      have HE : Hid (((wiresL (rs ++ [r])).length : Int) = (n : Int) + ((wireL r).length : Int)) := hide (by rw [Come.len, hn]; omega)
      have ST := hide hst
      generalize (wireL r).length = m at F1 hlt hne HE
      have F := hide F1
      have nz : ¬ (m : Int) = 0 := by omega
      have n0 : ((m : Int) == 0) = false := by rw [beq_eq_false_iff_ne]; omega
      clear F1 hf hC hrow hb hn hst
      go_upto_region 4 with (go_at_call 26; (with_reducible refine F.out.mono ?_); rintro y w1 ⟨rfl, hb1⟩; have B1 := hide hb1; clear hb1)
      have B2 := hide (B1.out.alloc B1.out.size (.cells #[.int .i64 (r.q : Int), .string r.s, .int .i64 (r.g : Int), .string r.p, .string r.d] 23))
      have XR := hide (HasR.new w1 23 #[.int .i64 (r.q : Int), .string r.s, .int .i64 (r.g : Int), .string r.p, .string r.d])
      have hw1 := B1.out.size
      generalize w1.alloc (.cells #[.int .i64 (r.q : Int), .string r.s, .int .i64 (r.g : Int), .string r.p, .string r.d] 23) = w2 at B2 XR ⊢
      have r0 : w2.cell? ⟨w1.heap.size, 0, none⟩ = some (.int .i64 (r.q : Int)) := XR.out.cell 0
      have r1 : w2.cell? ⟨w1.heap.size, 1, none⟩ = some (.string r.s) := XR.out.cell 1
      have r2 : w2.cell? ⟨w1.heap.size, 2, none⟩ = some (.int .i64 (r.g : Int)) := XR.out.cell 2
      have r3 : w2.cell? ⟨w1.heap.size, 3, none⟩ = some (.string r.p) := XR.out.cell 3
      have r4 : w2.cell? ⟨w1.heap.size, 4, none⟩ = some (.string r.d) := XR.out.cell 4
      have hw2 := B2.out.size
      have RX := hide ((row_still RW.out B2.out).alloc (.cells #[.int .i64 (r.q : Int), .string r.s, .int .i64 (r.g : Int), .string r.p, .string r.d] 23))
      have NX := hide (news_blk (HasR.new w2 23 #[.int .i64 (r.q : Int), .string r.s, .int .i64 (r.g : Int), .string r.p, .string r.d]))
      go_wp2_with (at_builtin; refine wpList_append_own _ rfl _ _ 40 rfl w.heap.size 23 i0 (recV recZ) 5 64 Tryd.underlying40 hi hz0 hz1 hz2 rfl (by decide) _ _ _ rfl RX.out ⟨w2.heap.size, 0, none⟩ 1 1 (recL r) rfl rfl NX.out (by simp [Value.oneCell', recL]) (by unfold maxLen; omega) (by omega) (by simp; omega) ?_; intro v' w3 hown' hg3 hnil3; have R3 := hide hown'; have G3 := hide hg3; clear hown' hg3 hnil3; go_frame)
      go_roundw
      case rel =>
        refine ⟨rs ++ [r], _, rfl, by rw [HE.out], ST.out, ?_, ?_⟩
        · rw [List.length_append, List.length_singleton, recsL_snoc]
          exact R3.out
        · exact (((BW.out.trans (B2.out.mono BW.out.size)).alloc (by omega) _).grown G3.out (by simp; omega) (fun k hk => (RX.out.lt k hk).1))
      case measure => simp [intOf]; omega
end Go.Proofs.YtjobghphjkeohaaDoor
