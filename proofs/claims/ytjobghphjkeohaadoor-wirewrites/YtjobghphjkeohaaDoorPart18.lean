/- Texts of this proof, one behind the other. -/
import Derived.Deep.RegionHeld3
import Derived.Laws.StructEq
import Derived.Test.YtjobghphjkeohaaDoorPart17
/- Records held against each other; rows of records, too. -/
namespace Go.Proofs.YtjobghphjkeohaaDoor
open Go.RowKit
attribute [local go_sem ↓] Go.wp_at_zero Go.wp_at_succ
theorem heldRec : Tryd.prog.stoodInHeld 23 = false := by kernel_rfl
theorem fieldsRec : Tryd.prog.underlying 23 = some (.struct (Tryd.prog.fieldsOf 23)) := by kernel_rfl
def eqRec (q : Int) (s : ByteArray) (g : Int) (p d : ByteArray) (q' : Int) (s' : ByteArray) (g' : Int) (p' d' : ByteArray) : Bool := (q == q') && ((s.toList == s'.toList) && ((g == g') && ((p.toList == p'.toList) && (d.toList == d'.toList))))
theorem recW_equal (q : Int) (s : ByteArray) (g : Int) (p d : ByteArray) (q' : Int) (s' : ByteArray) (g' : Int) (p' d' : ByteArray) (w : World) : (Op.equalIn 10000 23 (.agg #[.int .i64 q, .string s, .int .i64 g, .string p, .string d]) (.agg #[.int .i64 q', .string s', .int .i64 g', .string p', .string d'])).run Tryd.prog w = .ok (eqRec q s g p d q' s' g' p' d') w := by
  rw [show (10000 : Nat) = 9999 + 1 from rfl, run_equalIn_agg w 9999 23 _ _ fieldsRec heldRec]
  simp only [Program.fieldsOf, Tryd.underlying23]
  unfold eqRec
  go_simp
  by_cases h1 : q = q' <;> by_cases h2 : s.toList = s'.toList <;> by_cases h3 : g = g' <;> by_cases h4 : p.toList = p'.toList <;> by_cases h5 : d.toList = d'.toList <;> simp [h1, h2, h3, h4, h5]
theorem eqRec_self (q : Int) (s : ByteArray) (g : Int) (p d : ByteArray) : eqRec q s g p d q s g p d = true := by simp [eqRec]
theorem recW_eql (q : Int) (s : ByteArray) (g : Int) (p d : ByteArray) (w : World) : (binOp .eql 23 (.agg #[.int .i64 q, .string s, .int .i64 g, .string p, .string d]) (.agg #[.int .i64 q, .string s, .int .i64 g, .string p, .string d])).run Tryd.prog w = .ok (.bool true) w := by
  rw [run_eql_struct, recW_equal, eqRec_self]; rfl
theorem recW_neq (q : Int) (s : ByteArray) (g : Int) (p d : ByteArray) (w : World) : (binOp .neq 23 (.agg #[.int .i64 q, .string s, .int .i64 g, .string p, .string d]) (.agg #[.int .i64 q, .string s, .int .i64 g, .string p, .string d])).run Tryd.prog w = .ok (.bool false) w := by
  rw [run_neq_struct, recW_equal, eqRec_self]; rfl
/-- A row of records that a call made: its slice, and its cells. -/
theorem recs_slice {w : World} {base : Nat} {v : Value} {rs : List Rec} (h : w.ownsRow base 23 5 v rs.length (recsL rs)) : ∃ p c, v = .slice p rs.length c := by
  rcases h.2 with ⟨e, e0⟩ | ⟨g, cap, cur, hv, _⟩
  · exact ⟨_, _, by rw [e, e0]⟩
  · exact ⟨_, _, hv⟩
theorem recs_at {w : World} {base n cap : Nat} {p : Option Addr} {rs : List Rec} {k : Nat} (h : w.ownsRow base 23 5 (.slice p n cap) rs.length (recsL rs)) (hk : k < rs.length) : ∃ g, p = some ⟨g, 0, none⟩ ∧ g < w.heap.size ∧ rs.length ≤ cap ∧ w.cell? ⟨g, k * 5, none⟩ = some (.int .i64 ((rs.getD k recZ).q : Int)) ∧ w.cell? ⟨g, k * 5 + 1, none⟩ = some (.string (rs.getD k recZ).s) ∧ w.cell? ⟨g, k * 5 + 2, none⟩ = some (.int .i64 ((rs.getD k recZ).g : Int)) ∧ w.cell? ⟨g, k * 5 + 3, none⟩ = some (.string (rs.getD k recZ).p) ∧ w.cell? ⟨g, k * 5 + 4, none⟩ = some (.string (rs.getD k recZ).d) := by
  rcases h.2 with ⟨_, e0⟩ | ⟨g, cap', cur, hv, hb, hg, h1, h2, h3, h4⟩
  · omega
  · injection hv with e1 e2 e3
    subst e1 e3
    have f : ∀ i u, (recL (rs.getD k recZ))[i]? = some u → w.cell? ⟨g, k * 5 + i, none⟩ = some u := fun i u hu => by
      have hi : i < 5 := (List.getElem?_eq_some_iff.1 hu).1
      rw [cell_of_row w g _ cur 23 (0, 0) hg, ← Array.getElem?_toList, ← List.getElem?_take_of_lt (j := rs.length * 5) (by omega), h4, recsL_at rs k i hk hi]
      exact hu
    exact ⟨g, rfl, lt_of_block hg, h1, f 0 _ rfl, f 1 _ rfl, f 2 _ rfl, f 3 _ rfl, f 4 _ rfl⟩
set_option maxRecDepth 100000 in
set_option maxHeartbeats 2000000 in
theorem sameRecs_any (B1 B2 : Nat) (v1 v2 : Value) (rs : List Rec) (w : World) (hl : rs.length ≤ 100000) (h1 : w.ownsRow B1 23 5 v1 rs.length (recsL rs)) (h2 : w.ownsRow B2 23 5 v2 rs.length (recsL rs)) :
    Calls Tryd.prog 15 #[v1, v2] w fun x w' => x = .returned (.bool true) ∧ Below w.heap.size w w' := by
  obtain ⟨p1, c1, rfl⟩ := recs_slice h1
  obtain ⟨p2, c2, rfl⟩ := recs_slice h2
  have NE := recW_neq
  obtain ⟨n, hn⟩ : ∃ n, n = rs.length := ⟨_, rfl⟩
  have H1 := hide h1
  have H2 := hide h2
  have HN := hide hn
  rw [← hn] at hl ⊢
  clear h1 h2 hn
  go_enter Tryd.func15, Tryd.ntmps15
  go_wp2
  go_loopw [5] (fun i wr => ∃ k : Nat, k ≤ n ∧ i = .int .i64 k ∧ Below w.heap.size w wr) (fun i _ => n - (intOf i).toNat)
  case atStart => exact ⟨0, by omega, rfl, Below.refl _ w⟩
  case round =>
    obtain ⟨k, hk, rfl, hb⟩ := hrel
    by_cases hlt : k < n
    · obtain ⟨g1, e1, hg1, hc1, x0, x1, x2, x3, x4⟩ := recs_at H1.out (show k < rs.length by rw [← HN.out]; exact hlt)
      obtain ⟨g2, e2, hg2, hc2, y0, y1, y2, y3, y4⟩ := recs_at H2.out (show k < rs.length by rw [← HN.out]; exact hlt)
      rw [← HN.out] at hc1 hc2
      subst e1 e2
      rw [← hb.cell (p := ⟨g1, k * 5, none⟩) hg1] at x0
      rw [← hb.cell (p := ⟨g1, k * 5 + 1, none⟩) hg1] at x1
      rw [← hb.cell (p := ⟨g1, k * 5 + 2, none⟩) hg1] at x2
      rw [← hb.cell (p := ⟨g1, k * 5 + 3, none⟩) hg1] at x3
      rw [← hb.cell (p := ⟨g1, k * 5 + 4, none⟩) hg1] at x4
      rw [← hb.cell (p := ⟨g2, k * 5, none⟩) hg2] at y0
      rw [← hb.cell (p := ⟨g2, k * 5 + 1, none⟩) hg2] at y1
      rw [← hb.cell (p := ⟨g2, k * 5 + 2, none⟩) hg2] at y2
      rw [← hb.cell (p := ⟨g2, k * 5 + 3, none⟩) hg2] at y3
      rw [← hb.cell (p := ⟨g2, k * 5 + 4, none⟩) hg2] at y4
      have i1 : (k : Int) < (n : Int) := by omega
      have BB := hide hb
      generalize rs.getD k recZ = r at x0 x1 x2 x3 x4 y0 y1 y2 y3 y4
      have NR := NE (r.q : Int) r.s (r.g : Int) r.p r.d
      clear NE hb
      go_upto_region 6 with fail
      go_region
      go_wp2_with fail
      go_roundw
      case rel => exact ⟨k + 1, by omega, by go_num, BB.out.drew⟩
      case measure => simp [intOf]; omega
    · have i1 : ¬ (k : Int) < (n : Int) := by omega
      have BB := hide hb
      clear NE hb
      go_wp2_with fail
      go_ret
      exact ⟨rfl, BB.out⟩
end Go.Proofs.YtjobghphjkeohaaDoor

/- Parse: the record of which just these bytes are told. -/
namespace Go.Proofs.YtjobghphjkeohaaDoor
open Go.RowKit
attribute [local go_sem ↓] Go.wp_at_zero Go.wp_at_succ
/-- The record of which just these bytes are told. -/
def parseL (l : List UInt8) : Option Rec := match firstL l with
  | some r => if (wireL r).length = l.length then some r else none
  | none => none
theorem parseL_iff {l : List UInt8} {r : Rec} : parseL l = some r ↔ RightR r ∧ l = wireL r := by
  constructor
  · intro h
    unfold parseL at h
    cases hf : firstL l with
    | none => rw [hf] at h; cases h
    | some r' =>
      rw [hf] at h
      simp only at h
      split at h
      · rename_i hl
        obtain rfl := Option.some.inj h
        obtain ⟨hR, more, hm⟩ := first_some hf
        refine ⟨hR, ?_⟩
        have := congrArg List.length hm
        rw [List.length_append] at this
        have h0 : more = [] := List.eq_nil_of_length_eq_zero (by omega)
        rw [hm, h0, List.append_nil]
      · cases h
  · rintro ⟨hR, h⟩
    have hf := first_wire hR []
    rw [List.append_nil, ← h] at hf
    unfold parseL
    rw [hf]
    exact if_pos (congrArg List.length h.symm)
def parseV (l : List UInt8) : Value := match parseL l with
  | some r => .tuple #[recV r, .nilIface]
  | none => .tuple #[.agg #[.int .i64 0, .string ⟨#[]⟩, .int .i64 0, .string ⟨#[]⟩, .string ⟨#[]⟩], .iface 27 (.int .i64 3)]
theorem parseV_some {l : List UInt8} {r : Rec} (h : parseL l = some r) : parseV l = .tuple #[recV r, .nilIface] := by unfold parseV; rw [h]
theorem parseV_none {l : List UInt8} (h : parseL l = none) : parseV l = .tuple #[.agg #[.int .i64 0, .string ⟨#[]⟩, .int .i64 0, .string ⟨#[]⟩, .string ⟨#[]⟩], .iface 27 (.int .i64 3)] := by unfold parseV; rw [h]
set_option maxRecDepth 100000 in
set_option maxHeartbeats 4000000 in
theorem parse_any (l : List UInt8) (w : World) (hK : TabK w) : Calls Tryd.prog 12 #[.string (tx l)] w fun x w' => x = .returned (parseV l) ∧ Below w.heap.size w w' := by
  have bel : Below w.heap.size w (w.alloc (.cells #[.int .i64 0, .string ⟨#[]⟩, .int .i64 0, .string ⟨#[]⟩, .string ⟨#[]⟩] 23)) := (Below.refl _ w).alloc (Nat.le_refl _) _
  have X0 := hide (HasR.new w 23 #[.int .i64 0, .string ⟨#[]⟩, .int .i64 0, .string ⟨#[]⟩, .string ⟨#[]⟩])
  have BL := hide bel
  have KK := hide (fun wx (hb : Below w.heap.size w wx) => hK.below hb hK.lt)
  have F0 := fun wx (hk : TabK wx) => first_any l wx hk
  have hsz : (tx l).size = l.length := rfl
  clear bel hK
  cases hf : firstL l with
  | none =>
    have hp : parseL l = none := by unfold parseL; rw [hf]
    rw [parseV_none hp]
    rw [firstV_none hf] at F0
    have F := hide F0
    clear F0 hf hp
    go_enter Tryd.func12, Tryd.ntmps12
    go_upto_region 1 with fail
    generalize w.alloc (.cells #[.int .i64 0, .string ⟨#[]⟩, .int .i64 0, .string ⟨#[]⟩, .string ⟨#[]⟩] 23) = W1 at X0 BL ⊢
    have FX := hide (F.out W1 (KK.out _ BL.out))
    go_upto_region 2 with (go_at_call 27; (with_reducible refine FX.out.mono ?_); rintro y w1 ⟨rfl, hb1⟩; have B1 := hide hb1; clear hb1)
    have B2 := hide (B1.out.alloc B1.out.size (.cells #[.int .i64 0, .string ⟨#[]⟩, .int .i64 0, .string ⟨#[]⟩, .string ⟨#[]⟩] 23))
    have X3 := hide (X0.out.below B2.out X0.out.lt)
    have XR := hide (HasR.new w1 23 #[.int .i64 0, .string ⟨#[]⟩, .int .i64 0, .string ⟨#[]⟩, .string ⟨#[]⟩])
    generalize w1.alloc (.cells #[.int .i64 0, .string ⟨#[]⟩, .int .i64 0, .string ⟨#[]⟩, .string ⟨#[]⟩] 23) = w2 at B2 X3 XR ⊢
    have t0 : w2.cell? ⟨w.heap.size, 0, none⟩ = some (.int .i64 0) := X3.out.cell 0
    have t1 : w2.cell? ⟨w.heap.size, 1, none⟩ = some (.string ⟨#[]⟩) := X3.out.cell 1
    have t2 : w2.cell? ⟨w.heap.size, 2, none⟩ = some (.int .i64 0) := X3.out.cell 2
    have t3 : w2.cell? ⟨w.heap.size, 3, none⟩ = some (.string ⟨#[]⟩) := X3.out.cell 3
    have t4 : w2.cell? ⟨w.heap.size, 4, none⟩ = some (.string ⟨#[]⟩) := X3.out.cell 4
    have u0 : w2.frozen? ⟨w.heap.size, 0, none⟩ = false := X3.out.free 0
    have u1 : w2.frozen? ⟨w.heap.size, 1, none⟩ = false := X3.out.free 1
    have u2 : w2.frozen? ⟨w.heap.size, 2, none⟩ = false := X3.out.free 2
    have u3 : w2.frozen? ⟨w.heap.size, 3, none⟩ = false := X3.out.free 3
    have u4 : w2.frozen? ⟨w.heap.size, 4, none⟩ = false := X3.out.free 4
    go_wp2
    have TF := stir5 w2 w.heap.size (.int .i64 0) (.string ⟨#[]⟩) (.int .i64 0) (.string ⟨#[]⟩) (.string ⟨#[]⟩)
    have X5 := HasR.five X3.out (.int .i64 0) (.string ⟨#[]⟩) (.int .i64 0) (.string ⟨#[]⟩) (.string ⟨#[]⟩)
    generalize ((((w2.setCell ⟨w.heap.size, 0, none⟩ (.int .i64 0)).setCell ⟨w.heap.size, 1, none⟩ (.string ⟨#[]⟩)).setCell ⟨w.heap.size, 2, none⟩ (.int .i64 0)).setCell ⟨w.heap.size, 3, none⟩ (.string ⟨#[]⟩)).setCell ⟨w.heap.size, 4, none⟩ (.string ⟨#[]⟩) = w6 at TF X5 ⊢
    have z0 := X5.cell 0
    have z1 := X5.cell 1
    have z2 := X5.cell 2
    have z3 := X5.cell 3
    have z4 := X5.cell 4
    simp at z0 z1 z2 z3 z4
    have BW := BL.out.trans (B2.out.mono BL.out.size)
    refine bodyPost_ret (v := .tuple #[.agg #[.int .i64 0, .string ⟨#[]⟩, .int .i64 0, .string ⟨#[]⟩, .string ⟨#[]⟩], .iface 27 (.int .i64 3)]) (by simp [results, Tryd.results12, go_sem, z0, z1, z2, z3, z4]) rfl ⟨rfl, BW.trans (TF.below BW.size (fun j hj => by simp at hj; omega))⟩
  | some r =>
    rw [firstV_some hf] at F0
    unfold recV at F0
    have hpos := wireL_ne r
    have hle : (wireL r).length ≤ l.length := by
      obtain ⟨_, more, hm⟩ := first_some hf
      rw [hm, List.length_append]; omega
    by_cases hl : (wireL r).length = l.length
    · have hp : parseL l = some r := by unfold parseL; rw [hf]; exact if_pos hl
      rw [parseV_some hp]
      unfold recV
      rw [hl] at F0 hpos
      have F := hide F0
      have n0 : ((l.length : Int) == 0) = false := by rw [beq_eq_false_iff_ne]; omega
      have n1 : ¬ (l.length : Int) = 0 := by omega
      clear F0 hf hp hl hle hpos
      go_enter Tryd.func12, Tryd.ntmps12
      go_upto_region 1 with fail
      generalize w.alloc (.cells #[.int .i64 0, .string ⟨#[]⟩, .int .i64 0, .string ⟨#[]⟩, .string ⟨#[]⟩] 23) = W1 at X0 BL ⊢
      have FX := hide (F.out W1 (KK.out _ BL.out))
      go_upto_region 2 with (go_at_call 27; (with_reducible refine FX.out.mono ?_); rintro y w1 ⟨rfl, hb1⟩; have B1 := hide hb1; clear hb1)
      have B2 := hide (B1.out.alloc B1.out.size (.cells #[.int .i64 (r.q : Int), .string r.s, .int .i64 (r.g : Int), .string r.p, .string r.d] 23))
      have X3 := hide (X0.out.below B2.out X0.out.lt)
      have XR := hide (HasR.new w1 23 #[.int .i64 (r.q : Int), .string r.s, .int .i64 (r.g : Int), .string r.p, .string r.d])
      generalize w1.alloc (.cells #[.int .i64 (r.q : Int), .string r.s, .int .i64 (r.g : Int), .string r.p, .string r.d] 23) = w2 at B2 X3 XR ⊢
      have t0 : w2.cell? ⟨w.heap.size, 0, none⟩ = some (.int .i64 0) := X3.out.cell 0
      have t1 : w2.cell? ⟨w.heap.size, 1, none⟩ = some (.string ⟨#[]⟩) := X3.out.cell 1
      have t2 : w2.cell? ⟨w.heap.size, 2, none⟩ = some (.int .i64 0) := X3.out.cell 2
      have t3 : w2.cell? ⟨w.heap.size, 3, none⟩ = some (.string ⟨#[]⟩) := X3.out.cell 3
      have t4 : w2.cell? ⟨w.heap.size, 4, none⟩ = some (.string ⟨#[]⟩) := X3.out.cell 4
      have u0 : w2.frozen? ⟨w.heap.size, 0, none⟩ = false := X3.out.free 0
      have u1 : w2.frozen? ⟨w.heap.size, 1, none⟩ = false := X3.out.free 1
      have u2 : w2.frozen? ⟨w.heap.size, 2, none⟩ = false := X3.out.free 2
      have u3 : w2.frozen? ⟨w.heap.size, 3, none⟩ = false := X3.out.free 3
      have u4 : w2.frozen? ⟨w.heap.size, 4, none⟩ = false := X3.out.free 4
      have r0 : w2.cell? ⟨w1.heap.size, 0, none⟩ = some (.int .i64 (r.q : Int)) := XR.out.cell 0
      have r1 : w2.cell? ⟨w1.heap.size, 1, none⟩ = some (.string r.s) := XR.out.cell 1
      have r2 : w2.cell? ⟨w1.heap.size, 2, none⟩ = some (.int .i64 (r.g : Int)) := XR.out.cell 2
      have r3 : w2.cell? ⟨w1.heap.size, 3, none⟩ = some (.string r.p) := XR.out.cell 3
      have r4 : w2.cell? ⟨w1.heap.size, 4, none⟩ = some (.string r.d) := XR.out.cell 4
      go_wp2
      have TF := stir5 w2 w.heap.size (.int .i64 (r.q : Int)) (.string r.s) (.int .i64 (r.g : Int)) (.string r.p) (.string r.d)
      have X5 := HasR.five X3.out (.int .i64 (r.q : Int)) (.string r.s) (.int .i64 (r.g : Int)) (.string r.p) (.string r.d)
      generalize ((((w2.setCell ⟨w.heap.size, 0, none⟩ (.int .i64 (r.q : Int))).setCell ⟨w.heap.size, 1, none⟩ (.string r.s)).setCell ⟨w.heap.size, 2, none⟩ (.int .i64 (r.g : Int))).setCell ⟨w.heap.size, 3, none⟩ (.string r.p)).setCell ⟨w.heap.size, 4, none⟩ (.string r.d) = w6 at TF X5 ⊢
      have z0 := X5.cell 0
      have z1 := X5.cell 1
      have z2 := X5.cell 2
      have z3 := X5.cell 3
      have z4 := X5.cell 4
      simp at z0 z1 z2 z3 z4
      have BW := BL.out.trans (B2.out.mono BL.out.size)
      refine bodyPost_ret (v := .tuple #[.agg #[.int .i64 (r.q : Int), .string r.s, .int .i64 (r.g : Int), .string r.p, .string r.d], .nilIface]) (by simp [results, Tryd.results12, go_sem, z0, z1, z2, z3, z4]) rfl ⟨rfl, BW.trans (TF.below BW.size (fun j hj => by simp at hj; omega))⟩
    · have hp : parseL l = none := by unfold parseL; rw [hf]; exact if_neg hl
      rw [parseV_none hp]
      have n0 : (((wireL r).length : Int) == 0) = false := by rw [beq_eq_false_iff_ne]; omega
      have n1 : ¬ ((wireL r).length : Int) = 0 := by omega
      have n2 : (((wireL r).length : Int) != (l.length : Int)) = true := by simp [bne]; omega
      have n3 : ¬ ((wireL r).length : Int) = (l.length : Int) := by omega
      generalize (wireL r).length = n at F0 n0 n1 n2 n3
      have F := hide F0
      clear F0 hf hp hl hle hpos
      go_enter Tryd.func12, Tryd.ntmps12
      go_upto_region 1 with fail
      generalize w.alloc (.cells #[.int .i64 0, .string ⟨#[]⟩, .int .i64 0, .string ⟨#[]⟩, .string ⟨#[]⟩] 23) = W1 at X0 BL ⊢
      have FX := hide (F.out W1 (KK.out _ BL.out))
      go_upto_region 2 with (go_at_call 27; (with_reducible refine FX.out.mono ?_); rintro y w1 ⟨rfl, hb1⟩; have B1 := hide hb1; clear hb1)
      have B2 := hide (B1.out.alloc B1.out.size (.cells #[.int .i64 (r.q : Int), .string r.s, .int .i64 (r.g : Int), .string r.p, .string r.d] 23))
      have X3 := hide (X0.out.below B2.out X0.out.lt)
      have XR := hide (HasR.new w1 23 #[.int .i64 (r.q : Int), .string r.s, .int .i64 (r.g : Int), .string r.p, .string r.d])
      generalize w1.alloc (.cells #[.int .i64 (r.q : Int), .string r.s, .int .i64 (r.g : Int), .string r.p, .string r.d] 23) = w2 at B2 X3 XR ⊢
      have t0 : w2.cell? ⟨w.heap.size, 0, none⟩ = some (.int .i64 0) := X3.out.cell 0
      have t1 : w2.cell? ⟨w.heap.size, 1, none⟩ = some (.string ⟨#[]⟩) := X3.out.cell 1
      have t2 : w2.cell? ⟨w.heap.size, 2, none⟩ = some (.int .i64 0) := X3.out.cell 2
      have t3 : w2.cell? ⟨w.heap.size, 3, none⟩ = some (.string ⟨#[]⟩) := X3.out.cell 3
      have t4 : w2.cell? ⟨w.heap.size, 4, none⟩ = some (.string ⟨#[]⟩) := X3.out.cell 4
      have u0 : w2.frozen? ⟨w.heap.size, 0, none⟩ = false := X3.out.free 0
      have u1 : w2.frozen? ⟨w.heap.size, 1, none⟩ = false := X3.out.free 1
      have u2 : w2.frozen? ⟨w.heap.size, 2, none⟩ = false := X3.out.free 2
      have u3 : w2.frozen? ⟨w.heap.size, 3, none⟩ = false := X3.out.free 3
      have u4 : w2.frozen? ⟨w.heap.size, 4, none⟩ = false := X3.out.free 4
      go_wp2
      have TF := stir5 w2 w.heap.size (.int .i64 0) (.string ⟨#[]⟩) (.int .i64 0) (.string ⟨#[]⟩) (.string ⟨#[]⟩)
      have X5 := HasR.five X3.out (.int .i64 0) (.string ⟨#[]⟩) (.int .i64 0) (.string ⟨#[]⟩) (.string ⟨#[]⟩)
      generalize ((((w2.setCell ⟨w.heap.size, 0, none⟩ (.int .i64 0)).setCell ⟨w.heap.size, 1, none⟩ (.string ⟨#[]⟩)).setCell ⟨w.heap.size, 2, none⟩ (.int .i64 0)).setCell ⟨w.heap.size, 3, none⟩ (.string ⟨#[]⟩)).setCell ⟨w.heap.size, 4, none⟩ (.string ⟨#[]⟩) = w6 at TF X5 ⊢
      have z0 := X5.cell 0
      have z1 := X5.cell 1
      have z2 := X5.cell 2
      have z3 := X5.cell 3
      have z4 := X5.cell 4
      simp at z0 z1 z2 z3 z4
      have BW := BL.out.trans (B2.out.mono BL.out.size)
      refine bodyPost_ret (v := .tuple #[.agg #[.int .i64 0, .string ⟨#[]⟩, .int .i64 0, .string ⟨#[]⟩, .string ⟨#[]⟩], .iface 27 (.int .i64 3)]) (by simp [results, Tryd.results12, go_sem, z0, z1, z2, z3, z4]) rfl ⟨rfl, BW.trans (TF.below BW.size (fun j hj => by simp at hj; omega))⟩
end Go.Proofs.YtjobghphjkeohaaDoor

/- ParseRecord: the document's own way. -/
namespace Go.Proofs.YtjobghphjkeohaaDoor
open Go.RowKit
attribute [local go_sem ↓] Go.wp_at_zero Go.wp_at_succ
def refParseV (l : List UInt8) : Value := match parseL l with
  | some r => .tuple #[recV r, .int .i64 0]
  | none => .tuple #[.agg #[.int .i64 0, .string ⟨#[]⟩, .int .i64 0, .string ⟨#[]⟩, .string ⟨#[]⟩], .int .i64 3]
theorem refParseV_some {l : List UInt8} {r : Rec} (h : parseL l = some r) : refParseV l = .tuple #[recV r, .int .i64 0] := by unfold refParseV; rw [h]
theorem refParseV_none {l : List UInt8} (h : parseL l = none) : refParseV l = .tuple #[.agg #[.int .i64 0, .string ⟨#[]⟩, .int .i64 0, .string ⟨#[]⟩, .string ⟨#[]⟩], .int .i64 3] := by unfold refParseV; rw [h]
set_option maxRecDepth 100000 in
set_option maxHeartbeats 4000000 in
theorem refParse_any (b : Nat) (l : List UInt8) (w : World) (hK : RefR w b) : Calls Tryd.prog 11 #[.pointer (some ⟨b, 0, none⟩), .string (tx l)] w fun x w' => x = .returned (refParseV l) ∧ Below w.heap.size w w' := by
  have bel : Below w.heap.size w (w.alloc (.cells #[.int .i64 0, .string ⟨#[]⟩, .int .i64 0, .string ⟨#[]⟩, .string ⟨#[]⟩] 23)) := (Below.refl _ w).alloc (Nat.le_refl _) _
  have X0 := hide (HasR.new w 23 #[.int .i64 0, .string ⟨#[]⟩, .int .i64 0, .string ⟨#[]⟩, .string ⟨#[]⟩])
  have BL := hide bel
  have KK := hide (fun wx (hb : Below w.heap.size w wx) => hK.below hb hK.lt)
  have F0 := fun wx (hk : RefR wx b) => refFirst_any b l wx hk
  have hsz : (tx l).size = l.length := rfl
  clear bel hK
  cases hf : firstL l with
  | none =>
    have hp : parseL l = none := by unfold parseL; rw [hf]
    rw [refParseV_none hp]
    rw [firstV_none hf] at F0
    have F := hide F0
    clear F0 hf hp
    go_enter Tryd.func11, Tryd.ntmps11
    go_upto_region 1 with fail
    generalize w.alloc (.cells #[.int .i64 0, .string ⟨#[]⟩, .int .i64 0, .string ⟨#[]⟩, .string ⟨#[]⟩] 23) = W1 at X0 BL ⊢
    have FX := hide (F.out W1 (KK.out _ BL.out))
    go_upto_region 2 with (go_at_call 26; (with_reducible refine FX.out.mono ?_); rintro y w1 ⟨rfl, hb1⟩; have B1 := hide hb1; clear hb1)
    have B2 := hide (B1.out.alloc B1.out.size (.cells #[.int .i64 0, .string ⟨#[]⟩, .int .i64 0, .string ⟨#[]⟩, .string ⟨#[]⟩] 23))
    have X3 := hide (X0.out.below B2.out X0.out.lt)
    have XR := hide (HasR.new w1 23 #[.int .i64 0, .string ⟨#[]⟩, .int .i64 0, .string ⟨#[]⟩, .string ⟨#[]⟩])
    generalize w1.alloc (.cells #[.int .i64 0, .string ⟨#[]⟩, .int .i64 0, .string ⟨#[]⟩, .string ⟨#[]⟩] 23) = w2 at B2 X3 XR ⊢
    have t0 : w2.cell? ⟨w.heap.size, 0, none⟩ = some (.int .i64 0) := X3.out.cell 0
    have t1 : w2.cell? ⟨w.heap.size, 1, none⟩ = some (.string ⟨#[]⟩) := X3.out.cell 1
    have t2 : w2.cell? ⟨w.heap.size, 2, none⟩ = some (.int .i64 0) := X3.out.cell 2
    have t3 : w2.cell? ⟨w.heap.size, 3, none⟩ = some (.string ⟨#[]⟩) := X3.out.cell 3
    have t4 : w2.cell? ⟨w.heap.size, 4, none⟩ = some (.string ⟨#[]⟩) := X3.out.cell 4
    have u0 : w2.frozen? ⟨w.heap.size, 0, none⟩ = false := X3.out.free 0
    have u1 : w2.frozen? ⟨w.heap.size, 1, none⟩ = false := X3.out.free 1
    have u2 : w2.frozen? ⟨w.heap.size, 2, none⟩ = false := X3.out.free 2
    have u3 : w2.frozen? ⟨w.heap.size, 3, none⟩ = false := X3.out.free 3
    have u4 : w2.frozen? ⟨w.heap.size, 4, none⟩ = false := X3.out.free 4
    go_wp2
    have TF := stir5 w2 w.heap.size (.int .i64 0) (.string ⟨#[]⟩) (.int .i64 0) (.string ⟨#[]⟩) (.string ⟨#[]⟩)
    have X5 := HasR.five X3.out (.int .i64 0) (.string ⟨#[]⟩) (.int .i64 0) (.string ⟨#[]⟩) (.string ⟨#[]⟩)
    generalize ((((w2.setCell ⟨w.heap.size, 0, none⟩ (.int .i64 0)).setCell ⟨w.heap.size, 1, none⟩ (.string ⟨#[]⟩)).setCell ⟨w.heap.size, 2, none⟩ (.int .i64 0)).setCell ⟨w.heap.size, 3, none⟩ (.string ⟨#[]⟩)).setCell ⟨w.heap.size, 4, none⟩ (.string ⟨#[]⟩) = w6 at TF X5 ⊢
    have z0 := X5.cell 0
    have z1 := X5.cell 1
    have z2 := X5.cell 2
    have z3 := X5.cell 3
    have z4 := X5.cell 4
    simp at z0 z1 z2 z3 z4
    have BW := BL.out.trans (B2.out.mono BL.out.size)
    refine bodyPost_ret (v := .tuple #[.agg #[.int .i64 0, .string ⟨#[]⟩, .int .i64 0, .string ⟨#[]⟩, .string ⟨#[]⟩], .int .i64 3]) (by simp [results, Tryd.results11, go_sem, z0, z1, z2, z3, z4]) rfl ⟨rfl, BW.trans (TF.below BW.size (fun j hj => by simp at hj; omega))⟩
  | some r =>
    rw [firstV_some hf] at F0
    unfold recV at F0
    have hpos := wireL_ne r
    have hle : (wireL r).length ≤ l.length := by
      obtain ⟨_, more, hm⟩ := first_some hf
      rw [hm, List.length_append]; omega
    by_cases hl : (wireL r).length = l.length
    · have hp : parseL l = some r := by unfold parseL; rw [hf]; exact if_pos hl
      rw [refParseV_some hp]
      unfold recV
      rw [hl] at F0 hpos
      have F := hide F0
      have n0 : ((l.length : Int) == 0) = false := by rw [beq_eq_false_iff_ne]; omega
      have n1 : ¬ (l.length : Int) = 0 := by omega
      clear F0 hf hp hl hle hpos
      go_enter Tryd.func11, Tryd.ntmps11
      go_upto_region 1 with fail
      generalize w.alloc (.cells #[.int .i64 0, .string ⟨#[]⟩, .int .i64 0, .string ⟨#[]⟩, .string ⟨#[]⟩] 23) = W1 at X0 BL ⊢
      have FX := hide (F.out W1 (KK.out _ BL.out))
      go_upto_region 2 with (go_at_call 26; (with_reducible refine FX.out.mono ?_); rintro y w1 ⟨rfl, hb1⟩; have B1 := hide hb1; clear hb1)
      have B2 := hide (B1.out.alloc B1.out.size (.cells #[.int .i64 (r.q : Int), .string r.s, .int .i64 (r.g : Int), .string r.p, .string r.d] 23))
      have X3 := hide (X0.out.below B2.out X0.out.lt)
      have XR := hide (HasR.new w1 23 #[.int .i64 (r.q : Int), .string r.s, .int .i64 (r.g : Int), .string r.p, .string r.d])
      generalize w1.alloc (.cells #[.int .i64 (r.q : Int), .string r.s, .int .i64 (r.g : Int), .string r.p, .string r.d] 23) = w2 at B2 X3 XR ⊢
      have t0 : w2.cell? ⟨w.heap.size, 0, none⟩ = some (.int .i64 0) := X3.out.cell 0
      have t1 : w2.cell? ⟨w.heap.size, 1, none⟩ = some (.string ⟨#[]⟩) := X3.out.cell 1
      have t2 : w2.cell? ⟨w.heap.size, 2, none⟩ = some (.int .i64 0) := X3.out.cell 2
      have t3 : w2.cell? ⟨w.heap.size, 3, none⟩ = some (.string ⟨#[]⟩) := X3.out.cell 3
      have t4 : w2.cell? ⟨w.heap.size, 4, none⟩ = some (.string ⟨#[]⟩) := X3.out.cell 4
      have u0 : w2.frozen? ⟨w.heap.size, 0, none⟩ = false := X3.out.free 0
      have u1 : w2.frozen? ⟨w.heap.size, 1, none⟩ = false := X3.out.free 1
      have u2 : w2.frozen? ⟨w.heap.size, 2, none⟩ = false := X3.out.free 2
      have u3 : w2.frozen? ⟨w.heap.size, 3, none⟩ = false := X3.out.free 3
      have u4 : w2.frozen? ⟨w.heap.size, 4, none⟩ = false := X3.out.free 4
      have r0 : w2.cell? ⟨w1.heap.size, 0, none⟩ = some (.int .i64 (r.q : Int)) := XR.out.cell 0
      have r1 : w2.cell? ⟨w1.heap.size, 1, none⟩ = some (.string r.s) := XR.out.cell 1
      have r2 : w2.cell? ⟨w1.heap.size, 2, none⟩ = some (.int .i64 (r.g : Int)) := XR.out.cell 2
      have r3 : w2.cell? ⟨w1.heap.size, 3, none⟩ = some (.string r.p) := XR.out.cell 3
      have r4 : w2.cell? ⟨w1.heap.size, 4, none⟩ = some (.string r.d) := XR.out.cell 4
      go_wp2
      have TF := stir5 w2 w.heap.size (.int .i64 (r.q : Int)) (.string r.s) (.int .i64 (r.g : Int)) (.string r.p) (.string r.d)
      have X5 := HasR.five X3.out (.int .i64 (r.q : Int)) (.string r.s) (.int .i64 (r.g : Int)) (.string r.p) (.string r.d)
      generalize ((((w2.setCell ⟨w.heap.size, 0, none⟩ (.int .i64 (r.q : Int))).setCell ⟨w.heap.size, 1, none⟩ (.string r.s)).setCell ⟨w.heap.size, 2, none⟩ (.int .i64 (r.g : Int))).setCell ⟨w.heap.size, 3, none⟩ (.string r.p)).setCell ⟨w.heap.size, 4, none⟩ (.string r.d) = w6 at TF X5 ⊢
      have z0 := X5.cell 0
      have z1 := X5.cell 1
      have z2 := X5.cell 2
      have z3 := X5.cell 3
      have z4 := X5.cell 4
      simp at z0 z1 z2 z3 z4
      have BW := BL.out.trans (B2.out.mono BL.out.size)
      refine bodyPost_ret (v := .tuple #[.agg #[.int .i64 (r.q : Int), .string r.s, .int .i64 (r.g : Int), .string r.p, .string r.d], .int .i64 0]) (by simp [results, Tryd.results11, go_sem, z0, z1, z2, z3, z4]) rfl ⟨rfl, BW.trans (TF.below BW.size (fun j hj => by simp at hj; omega))⟩
    · have hp : parseL l = none := by unfold parseL; rw [hf]; exact if_neg hl
      rw [refParseV_none hp]
      have n0 : (((wireL r).length : Int) == 0) = false := by rw [beq_eq_false_iff_ne]; omega
      have n1 : ¬ ((wireL r).length : Int) = 0 := by omega
      have n2 : (((wireL r).length : Int) != (l.length : Int)) = true := by simp [bne]; omega
      have n3 : ¬ ((wireL r).length : Int) = (l.length : Int) := by omega
      generalize (wireL r).length = n at F0 n0 n1 n2 n3
      have F := hide F0
      clear F0 hf hp hl hle hpos
      go_enter Tryd.func11, Tryd.ntmps11
      go_upto_region 1 with fail
      generalize w.alloc (.cells #[.int .i64 0, .string ⟨#[]⟩, .int .i64 0, .string ⟨#[]⟩, .string ⟨#[]⟩] 23) = W1 at X0 BL ⊢
      have FX := hide (F.out W1 (KK.out _ BL.out))
      go_upto_region 2 with (go_at_call 26; (with_reducible refine FX.out.mono ?_); rintro y w1 ⟨rfl, hb1⟩; have B1 := hide hb1; clear hb1)
      have B2 := hide (B1.out.alloc B1.out.size (.cells #[.int .i64 (r.q : Int), .string r.s, .int .i64 (r.g : Int), .string r.p, .string r.d] 23))
      have X3 := hide (X0.out.below B2.out X0.out.lt)
      have XR := hide (HasR.new w1 23 #[.int .i64 (r.q : Int), .string r.s, .int .i64 (r.g : Int), .string r.p, .string r.d])
      generalize w1.alloc (.cells #[.int .i64 (r.q : Int), .string r.s, .int .i64 (r.g : Int), .string r.p, .string r.d] 23) = w2 at B2 X3 XR ⊢
      have t0 : w2.cell? ⟨w.heap.size, 0, none⟩ = some (.int .i64 0) := X3.out.cell 0
      have t1 : w2.cell? ⟨w.heap.size, 1, none⟩ = some (.string ⟨#[]⟩) := X3.out.cell 1
      have t2 : w2.cell? ⟨w.heap.size, 2, none⟩ = some (.int .i64 0) := X3.out.cell 2
      have t3 : w2.cell? ⟨w.heap.size, 3, none⟩ = some (.string ⟨#[]⟩) := X3.out.cell 3
      have t4 : w2.cell? ⟨w.heap.size, 4, none⟩ = some (.string ⟨#[]⟩) := X3.out.cell 4
      have u0 : w2.frozen? ⟨w.heap.size, 0, none⟩ = false := X3.out.free 0
      have u1 : w2.frozen? ⟨w.heap.size, 1, none⟩ = false := X3.out.free 1
      have u2 : w2.frozen? ⟨w.heap.size, 2, none⟩ = false := X3.out.free 2
      have u3 : w2.frozen? ⟨w.heap.size, 3, none⟩ = false := X3.out.free 3
      have u4 : w2.frozen? ⟨w.heap.size, 4, none⟩ = false := X3.out.free 4
      go_wp2
      have TF := stir5 w2 w.heap.size (.int .i64 0) (.string ⟨#[]⟩) (.int .i64 0) (.string ⟨#[]⟩) (.string ⟨#[]⟩)
      have X5 := HasR.five X3.out (.int .i64 0) (.string ⟨#[]⟩) (.int .i64 0) (.string ⟨#[]⟩) (.string ⟨#[]⟩)
      generalize ((((w2.setCell ⟨w.heap.size, 0, none⟩ (.int .i64 0)).setCell ⟨w.heap.size, 1, none⟩ (.string ⟨#[]⟩)).setCell ⟨w.heap.size, 2, none⟩ (.int .i64 0)).setCell ⟨w.heap.size, 3, none⟩ (.string ⟨#[]⟩)).setCell ⟨w.heap.size, 4, none⟩ (.string ⟨#[]⟩) = w6 at TF X5 ⊢
      have z0 := X5.cell 0
      have z1 := X5.cell 1
      have z2 := X5.cell 2
      have z3 := X5.cell 3
      have z4 := X5.cell 4
      simp at z0 z1 z2 z3 z4
      have BW := BL.out.trans (B2.out.mono BL.out.size)
      refine bodyPost_ret (v := .tuple #[.agg #[.int .i64 0, .string ⟨#[]⟩, .int .i64 0, .string ⟨#[]⟩, .string ⟨#[]⟩], .int .i64 3]) (by simp [results, Tryd.results11, go_sem, z0, z1, z2, z3, z4]) rfl ⟨rfl, BW.trans (TF.below BW.size (fun j hj => by simp at hj; omega))⟩
end Go.Proofs.YtjobghphjkeohaaDoor
