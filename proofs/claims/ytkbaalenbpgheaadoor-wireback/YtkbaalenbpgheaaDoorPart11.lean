/- Texts of this proof, one behind the other. -/
import Derived.Deep.RegionHeld3
import Derived.Laws.StructEq
import Derived.Test.YtkbaalenbpgheaaDoorPart10
/- Parse: the record of which just these bytes are told. -/
namespace Go.Proofs.YtkbaalenbpgheaaDoor
open Go.RowKit
attribute [local go_sem ↓] Go.wp_at_zero Go.wp_at_succ
/-- The record of which just these bytes are told. -/
def parseL (l : List UInt8) : Option Rec := match firstL l with
  | some r => if (wireL r).length = l.length then some r else none
  | none => none
theorem parseL_iff {l : List UInt8} {r : Rec} : parseL l = some r ↔ RightR r ∧ l = wireL r := by
  constructor
  · intro h
    unfold parseL at h
    cases hf : firstL l with
    | none => rw [hf] at h; cases h
    | some r' =>
      rw [hf] at h
      simp only at h
      split at h
      · rename_i hl
        obtain rfl := Option.some.inj h
        obtain ⟨hR, more, hm⟩ := first_some hf
        refine ⟨hR, ?_⟩
        have := congrArg List.length hm
        rw [List.length_append] at this
        have h0 : more = [] := List.eq_nil_of_length_eq_zero (by omega)
        rw [hm, h0, List.append_nil]
      · cases h
  · rintro ⟨hR, h⟩
    have hf := first_wire hR []
    rw [List.append_nil, ← h] at hf
    unfold parseL
    rw [hf]
    exact if_pos (congrArg List.length h.symm)
def parseV (l : List UInt8) : Value := match parseL l with
  | some r => .tuple #[recV r, .nilIface]
  | none => .tuple #[.agg #[.int .i64 0, .string ⟨#[]⟩, .int .i64 0, .string ⟨#[]⟩, .string ⟨#[]⟩], .iface 27 (.int .i64 3)]
theorem parseV_some {l : List UInt8} {r : Rec} (h : parseL l = some r) : parseV l = .tuple #[recV r, .nilIface] := by unfold parseV; rw [h]
theorem parseV_none {l : List UInt8} (h : parseL l = none) : parseV l = .tuple #[.agg #[.int .i64 0, .string ⟨#[]⟩, .int .i64 0, .string ⟨#[]⟩, .string ⟨#[]⟩], .iface 27 (.int .i64 3)] := by unfold parseV; rw [h]
set_option maxRecDepth 100000 in
set_option maxHeartbeats 4000000 in
theorem parse_any (l : List UInt8) (w : World) (hK : TabK w) : Calls Tryd.prog 13 #[.string (tx l)] w fun x w' => x = .returned (parseV l) ∧ Below w.heap.size w w' := by
  have bel : Below w.heap.size w (w.alloc (.cells #[.int .i64 0, .string ⟨#[]⟩, .int .i64 0, .string ⟨#[]⟩, .string ⟨#[]⟩] 23)) := (Below.refl _ w).alloc (Nat.le_refl _) _
  have X0 := hide (HasR.new w 23 #[.int .i64 0, .string ⟨#[]⟩, .int .i64 0, .string ⟨#[]⟩, .string ⟨#[]⟩])
  have BL := hide bel
  have KK := hide (fun wx (hb : Below w.heap.size w wx) => hK.below hb hK.lt)
  have F0 := fun wx (hk : TabK wx) => first_any l wx hk
  have hsz : (tx l).size = l.length := rfl
  clear bel hK
  cases hf : firstL l with
  | none =>
    have hp : parseL l = none := by unfold parseL; rw [hf]
    rw [parseV_none hp]
    rw [firstV_none hf] at F0
    have F := hide F0
    clear F0 hf hp
    go_enter Tryd.func13, Tryd.ntmps13
    go_upto_region 1 with fail
    generalize w.alloc (.cells #[.int .i64 0, .string ⟨#[]⟩, .int .i64 0, .string ⟨#[]⟩, .string ⟨#[]⟩] 23) = W1 at X0 BL ⊢
    have FX := hide (F.out W1 (KK.out _ BL.out))
    go_upto_region 2 with (go_at_call 30; (with_reducible refine FX.out.mono ?_); rintro y w1 ⟨rfl, hb1⟩; have B1 := hide hb1; clear hb1)
    have B2 := hide (B1.out.alloc B1.out.size (.cells #[.int .i64 0, .string ⟨#[]⟩, .int .i64 0, .string ⟨#[]⟩, .string ⟨#[]⟩] 23))
    have X3 := hide (X0.out.below B2.out X0.out.lt)
    have XR := hide (HasR.new w1 23 #[.int .i64 0, .string ⟨#[]⟩, .int .i64 0, .string ⟨#[]⟩, .string ⟨#[]⟩])
    generalize w1.alloc (.cells #[.int .i64 0, .string ⟨#[]⟩, .int .i64 0, .string ⟨#[]⟩, .string ⟨#[]⟩] 23) = w2 at B2 X3 XR ⊢
    have t0 : w2.cell? ⟨w.heap.size, 0, none⟩ = some (.int .i64 0) := X3.out.cell 0
    have t1 : w2.cell? ⟨w.heap.size, 1, none⟩ = some (.string ⟨#[]⟩) := X3.out.cell 1
    have t2 : w2.cell? ⟨w.heap.size, 2, none⟩ = some (.int .i64 0) := X3.out.cell 2
    have t3 : w2.cell? ⟨w.heap.size, 3, none⟩ = some (.string ⟨#[]⟩) := X3.out.cell 3
    have t4 : w2.cell? ⟨w.heap.size, 4, none⟩ = some (.string ⟨#[]⟩) := X3.out.cell 4
    have u0 : w2.frozen? ⟨w.heap.size, 0, none⟩ = false := X3.out.free 0
    have u1 : w2.frozen? ⟨w.heap.size, 1, none⟩ = false := X3.out.free 1
    have u2 : w2.frozen? ⟨w.heap.size, 2, none⟩ = false := X3.out.free 2
    have u3 : w2.frozen? ⟨w.heap.size, 3, none⟩ = false := X3.out.free 3
    have u4 : w2.frozen? ⟨w.heap.size, 4, none⟩ = false := X3.out.free 4
    go_wp2
    have TF := stir5 w2 w.heap.size (.int .i64 0) (.string ⟨#[]⟩) (.int .i64 0) (.string ⟨#[]⟩) (.string ⟨#[]⟩)
    have X5 := HasR.five X3.out (.int .i64 0) (.string ⟨#[]⟩) (.int .i64 0) (.string ⟨#[]⟩) (.string ⟨#[]⟩)
    generalize ((((w2.setCell ⟨w.heap.size, 0, none⟩ (.int .i64 0)).setCell ⟨w.heap.size, 1, none⟩ (.string ⟨#[]⟩)).setCell ⟨w.heap.size, 2, none⟩ (.int .i64 0)).setCell ⟨w.heap.size, 3, none⟩ (.string ⟨#[]⟩)).setCell ⟨w.heap.size, 4, none⟩ (.string ⟨#[]⟩) = w6 at TF X5 ⊢
    have z0 := X5.cell 0
    have z1 := X5.cell 1
    have z2 := X5.cell 2
    have z3 := X5.cell 3
    have z4 := X5.cell 4
    simp at z0 z1 z2 z3 z4
    have BW := BL.out.trans (B2.out.mono BL.out.size)
    refine bodyPost_ret (v := .tuple #[.agg #[.int .i64 0, .string ⟨#[]⟩, .int .i64 0, .string ⟨#[]⟩, .string ⟨#[]⟩], .iface 27 (.int .i64 3)]) (by simp [results, Tryd.results13, go_sem, z0, z1, z2, z3, z4]) rfl ⟨rfl, BW.trans (TF.below BW.size (fun j hj => by simp at hj; omega))⟩
  | some r =>
    rw [firstV_some hf] at F0
    unfold recV at F0
    have hpos := wireL_ne r
    have hle : (wireL r).length ≤ l.length := by
      obtain ⟨_, more, hm⟩ := first_some hf
      rw [hm, List.length_append]; omega
    by_cases hl : (wireL r).length = l.length
    · have hp : parseL l = some r := by unfold parseL; rw [hf]; exact if_pos hl
      rw [parseV_some hp]
      unfold recV
      rw [hl] at F0 hpos
      have F := hide F0
      have n0 : ((l.length : Int) == 0) = false := by rw [beq_eq_false_iff_ne]; omega
      have n1 : ¬ (l.length : Int) = 0 := by omega
      clear F0 hf hp hl hle hpos
      go_enter Tryd.func13, Tryd.ntmps13
      go_upto_region 1 with fail
      generalize w.alloc (.cells #[.int .i64 0, .string ⟨#[]⟩, .int .i64 0, .string ⟨#[]⟩, .string ⟨#[]⟩] 23) = W1 at X0 BL ⊢
      have FX := hide (F.out W1 (KK.out _ BL.out))
      go_upto_region 2 with (go_at_call 30; (with_reducible refine FX.out.mono ?_); rintro y w1 ⟨rfl, hb1⟩; have B1 := hide hb1; clear hb1)
      have B2 := hide (B1.out.alloc B1.out.size (.cells #[.int .i64 (r.q : Int), .string r.s, .int .i64 (r.g : Int), .string r.p, .string r.d] 23))
      have X3 := hide (X0.out.below B2.out X0.out.lt)
      have XR := hide (HasR.new w1 23 #[.int .i64 (r.q : Int), .string r.s, .int .i64 (r.g : Int), .string r.p, .string r.d])
      generalize w1.alloc (.cells #[.int .i64 (r.q : Int), .string r.s, .int .i64 (r.g : Int), .string r.p, .string r.d] 23) = w2 at B2 X3 XR ⊢
      have t0 : w2.cell? ⟨w.heap.size, 0, none⟩ = some (.int .i64 0) := X3.out.cell 0
      have t1 : w2.cell? ⟨w.heap.size, 1, none⟩ = some (.string ⟨#[]⟩) := X3.out.cell 1
      have t2 : w2.cell? ⟨w.heap.size, 2, none⟩ = some (.int .i64 0) := X3.out.cell 2
      have t3 : w2.cell? ⟨w.heap.size, 3, none⟩ = some (.string ⟨#[]⟩) := X3.out.cell 3
      have t4 : w2.cell? ⟨w.heap.size, 4, none⟩ = some (.string ⟨#[]⟩) := X3.out.cell 4
      have u0 : w2.frozen? ⟨w.heap.size, 0, none⟩ = false := X3.out.free 0
      have u1 : w2.frozen? ⟨w.heap.size, 1, none⟩ = false := X3.out.free 1
      have u2 : w2.frozen? ⟨w.heap.size, 2, none⟩ = false := X3.out.free 2
      have u3 : w2.frozen? ⟨w.heap.size, 3, none⟩ = false := X3.out.free 3
      have u4 : w2.frozen? ⟨w.heap.size, 4, none⟩ = false := X3.out.free 4
      have r0 : w2.cell? ⟨w1.heap.size, 0, none⟩ = some (.int .i64 (r.q : Int)) := XR.out.cell 0
      have r1 : w2.cell? ⟨w1.heap.size, 1, none⟩ = some (.string r.s) := XR.out.cell 1
      have r2 : w2.cell? ⟨w1.heap.size, 2, none⟩ = some (.int .i64 (r.g : Int)) := XR.out.cell 2
      have r3 : w2.cell? ⟨w1.heap.size, 3, none⟩ = some (.string r.p) := XR.out.cell 3
      have r4 : w2.cell? ⟨w1.heap.size, 4, none⟩ = some (.string r.d) := XR.out.cell 4
      go_wp2
      have TF := stir5 w2 w.heap.size (.int .i64 (r.q : Int)) (.string r.s) (.int .i64 (r.g : Int)) (.string r.p) (.string r.d)
      have X5 := HasR.five X3.out (.int .i64 (r.q : Int)) (.string r.s) (.int .i64 (r.g : Int)) (.string r.p) (.string r.d)
      generalize ((((w2.setCell ⟨w.heap.size, 0, none⟩ (.int .i64 (r.q : Int))).setCell ⟨w.heap.size, 1, none⟩ (.string r.s)).setCell ⟨w.heap.size, 2, none⟩ (.int .i64 (r.g : Int))).setCell ⟨w.heap.size, 3, none⟩ (.string r.p)).setCell ⟨w.heap.size, 4, none⟩ (.string r.d) = w6 at TF X5 ⊢
      have z0 := X5.cell 0
      have z1 := X5.cell 1
      have z2 := X5.cell 2
      have z3 := X5.cell 3
      have z4 := X5.cell 4
      simp at z0 z1 z2 z3 z4
      have BW := BL.out.trans (B2.out.mono BL.out.size)
      refine bodyPost_ret (v := .tuple #[.agg #[.int .i64 (r.q : Int), .string r.s, .int .i64 (r.g : Int), .string r.p, .string r.d], .nilIface]) (by simp [results, Tryd.results13, go_sem, z0, z1, z2, z3, z4]) rfl ⟨rfl, BW.trans (TF.below BW.size (fun j hj => by simp at hj; omega))⟩
    · have hp : parseL l = none := by unfold parseL; rw [hf]; exact if_neg hl
      rw [parseV_none hp]
      have n0 : (((wireL r).length : Int) == 0) = false := by rw [beq_eq_false_iff_ne]; omega
      have n1 : ¬ ((wireL r).length : Int) = 0 := by omega
      have n2 : (((wireL r).length : Int) != (l.length : Int)) = true := by simp [bne]; omega
      have n3 : ¬ ((wireL r).length : Int) = (l.length : Int) := by omega
      generalize (wireL r).length = n at F0 n0 n1 n2 n3
      have F := hide F0
      clear F0 hf hp hl hle hpos
      go_enter Tryd.func13, Tryd.ntmps13
      go_upto_region 1 with fail
      generalize w.alloc (.cells #[.int .i64 0, .string ⟨#[]⟩, .int .i64 0, .string ⟨#[]⟩, .string ⟨#[]⟩] 23) = W1 at X0 BL ⊢
      have FX := hide (F.out W1 (KK.out _ BL.out))
      go_upto_region 2 with (go_at_call 30; (with_reducible refine FX.out.mono ?_); rintro y w1 ⟨rfl, hb1⟩; have B1 := hide hb1; clear hb1)
      have B2 := hide (B1.out.alloc B1.out.size (.cells #[.int .i64 (r.q : Int), .string r.s, .int .i64 (r.g : Int), .string r.p, .string r.d] 23))
      have X3 := hide (X0.out.below B2.out X0.out.lt)
      have XR := hide (HasR.new w1 23 #[.int .i64 (r.q : Int), .string r.s, .int .i64 (r.g : Int), .string r.p, .string r.d])
      generalize w1.alloc (.cells #[.int .i64 (r.q : Int), .string r.s, .int .i64 (r.g : Int), .string r.p, .string r.d] 23) = w2 at B2 X3 XR ⊢
      have t0 : w2.cell? ⟨w.heap.size, 0, none⟩ = some (.int .i64 0) := X3.out.cell 0
      have t1 : w2.cell? ⟨w.heap.size, 1, none⟩ = some (.string ⟨#[]⟩) := X3.out.cell 1
      have t2 : w2.cell? ⟨w.heap.size, 2, none⟩ = some (.int .i64 0) := X3.out.cell 2
      have t3 : w2.cell? ⟨w.heap.size, 3, none⟩ = some (.string ⟨#[]⟩) := X3.out.cell 3
      have t4 : w2.cell? ⟨w.heap.size, 4, none⟩ = some (.string ⟨#[]⟩) := X3.out.cell 4
      have u0 : w2.frozen? ⟨w.heap.size, 0, none⟩ = false := X3.out.free 0
      have u1 : w2.frozen? ⟨w.heap.size, 1, none⟩ = false := X3.out.free 1
      have u2 : w2.frozen? ⟨w.heap.size, 2, none⟩ = false := X3.out.free 2
      have u3 : w2.frozen? ⟨w.heap.size, 3, none⟩ = false := X3.out.free 3
      have u4 : w2.frozen? ⟨w.heap.size, 4, none⟩ = false := X3.out.free 4
      go_wp2
      have TF := stir5 w2 w.heap.size (.int .i64 0) (.string ⟨#[]⟩) (.int .i64 0) (.string ⟨#[]⟩) (.string ⟨#[]⟩)
      have X5 := HasR.five X3.out (.int .i64 0) (.string ⟨#[]⟩) (.int .i64 0) (.string ⟨#[]⟩) (.string ⟨#[]⟩)
      generalize ((((w2.setCell ⟨w.heap.size, 0, none⟩ (.int .i64 0)).setCell ⟨w.heap.size, 1, none⟩ (.string ⟨#[]⟩)).setCell ⟨w.heap.size, 2, none⟩ (.int .i64 0)).setCell ⟨w.heap.size, 3, none⟩ (.string ⟨#[]⟩)).setCell ⟨w.heap.size, 4, none⟩ (.string ⟨#[]⟩) = w6 at TF X5 ⊢
      have z0 := X5.cell 0
      have z1 := X5.cell 1
      have z2 := X5.cell 2
      have z3 := X5.cell 3
      have z4 := X5.cell 4
      simp at z0 z1 z2 z3 z4
      have BW := BL.out.trans (B2.out.mono BL.out.size)
      refine bodyPost_ret (v := .tuple #[.agg #[.int .i64 0, .string ⟨#[]⟩, .int .i64 0, .string ⟨#[]⟩, .string ⟨#[]⟩], .iface 27 (.int .i64 3)]) (by simp [results, Tryd.results13, go_sem, z0, z1, z2, z3, z4]) rfl ⟨rfl, BW.trans (TF.below BW.size (fun j hj => by simp at hj; omega))⟩
end Go.Proofs.YtkbaalenbpgheaaDoor

/- A fact: records as bytes; records held against each other. -/
namespace Go.Proofs.YtkbaalenbpgheaaDoor
open Go.RowKit
attribute [local go_sem ↓] Go.wp_at_zero Go.wp_at_succ
theorem heldRec : Tryd.prog.stoodInHeld 23 = false := by kernel_rfl
theorem fieldsRec : Tryd.prog.underlying 23 = some (.struct (Tryd.prog.fieldsOf 23)) := by kernel_rfl
def eqRec (q : Int) (s : ByteArray) (g : Int) (p d : ByteArray) (q' : Int) (s' : ByteArray) (g' : Int) (p' d' : ByteArray) : Bool := (q == q') && ((s.toList == s'.toList) && ((g == g') && ((p.toList == p'.toList) && (d.toList == d'.toList))))
theorem recW_equal (q : Int) (s : ByteArray) (g : Int) (p d : ByteArray) (q' : Int) (s' : ByteArray) (g' : Int) (p' d' : ByteArray) (w : World) : (Op.equalIn 10000 23 (.agg #[.int .i64 q, .string s, .int .i64 g, .string p, .string d]) (.agg #[.int .i64 q', .string s', .int .i64 g', .string p', .string d'])).run Tryd.prog w = .ok (eqRec q s g p d q' s' g' p' d') w := by
  rw [show (10000 : Nat) = 9999 + 1 from rfl, run_equalIn_agg w 9999 23 _ _ fieldsRec heldRec]
  simp only [Program.fieldsOf, Tryd.underlying23]
  unfold eqRec
  go_simp
  by_cases h1 : q = q' <;> by_cases h2 : s.toList = s'.toList <;> by_cases h3 : g = g' <;> by_cases h4 : p.toList = p'.toList <;> by_cases h5 : d.toList = d'.toList <;> simp [h1, h2, h3, h4, h5]
theorem eqRec_self (q : Int) (s : ByteArray) (g : Int) (p d : ByteArray) : eqRec q s g p d q s g p d = true := by simp [eqRec]
theorem recW_eql (q : Int) (s : ByteArray) (g : Int) (p d : ByteArray) (w : World) : (binOp .eql 23 (.agg #[.int .i64 q, .string s, .int .i64 g, .string p, .string d]) (.agg #[.int .i64 q, .string s, .int .i64 g, .string p, .string d])).run Tryd.prog w = .ok (.bool true) w := by
  rw [run_eql_struct, recW_equal, eqRec_self]; rfl
theorem recW_neq (q : Int) (s : ByteArray) (g : Int) (p d : ByteArray) (w : World) : (binOp .neq 23 (.agg #[.int .i64 q, .string s, .int .i64 g, .string p, .string d]) (.agg #[.int .i64 q, .string s, .int .i64 g, .string p, .string d])).run Tryd.prog w = .ok (.bool false) w := by
  rw [run_neq_struct, recW_equal, eqRec_self]; rfl
/-- The fact's record. -/
def recW1 : Rec := ⟨1, ⟨#[97, 110, 110]⟩, 0, ⟨#[0, 0, 0, 0, 0, 0, 0, 0, 0, 0, 0, 0, 0, 0, 0, 0]⟩, ⟨#[103, 111, 110, 101, 32, 97, 110, 110]⟩⟩
theorem rec1_right : RightR recW1 := ⟨by decide, by decide, by decide, by decide, rfl, by decide⟩
theorem rec1_fit : Fit recW1 := ⟨by decide, by decide, by decide, by decide, by decide⟩
theorem rec1_len : (wireL recW1).length = 48 := by rw [wireL_len]; rfl
theorem tx_cut (l : List UInt8) (i j : Nat) : (tx l).extract i j = tx ((l.drop i).take (j - i)) := by
  apply ByteArray.ext
  rw [ByteArray.data_extract]
  apply Array.toList_inj.1
  rw [Array.toList_extract]
  rfl
theorem rec1_mid : (tx (wireL recW1)).extract 16 21 = ⟨#[1, 3, 97, 110, 110]⟩ := by
  have hm : (markR recW1).data.toList.length = 16 := markR_size recW1
  rw [tx_cut]
  unfold wireL
  rw [drop_app hm]
  rfl
theorem rec1_mark : (tx (wireL recW1)).extract 0 16 = markR recW1 := by
  have hm : (markR recW1).data.toList.length = 16 := markR_size recW1
  rw [tx_take]
  unfold wireL
  rw [take_app hm]
  rfl
set_option maxRecDepth 100000 in
set_option maxHeartbeats 4000000 in
theorem written_any (w : World) (hK : TabK w) : Calls Tryd.prog 17 #[] w fun x w' => x = .returned (.bool true) ∧ Below w.heap.size w w' := by
  have bel : Below w.heap.size w (w.alloc (.cells #[.int .i64 1, .string ⟨#[97, 110, 110]⟩, .int .i64 0, .string ⟨#[0, 0, 0, 0, 0, 0, 0, 0, 0, 0, 0, 0, 0, 0, 0, 0]⟩, .string ⟨#[103, 111, 110, 101, 32, 97, 110, 110]⟩] 23)) := (Below.refl _ w).alloc (Nat.le_refl _) _
  have X0 := hide (HasR.new w 23 #[.int .i64 1, .string ⟨#[97, 110, 110]⟩, .int .i64 0, .string ⟨#[0, 0, 0, 0, 0, 0, 0, 0, 0, 0, 0, 0, 0, 0, 0, 0]⟩, .string ⟨#[103, 111, 110, 101, 32, 97, 110, 110]⟩])
  have BL := hide bel
  have KK := hide (fun wx (hb : Below w.heap.size w wx) => hK.below hb hK.lt)
  have WO : Hid (∀ wx, TabK wx → Calls Tryd.prog 8 #[.agg #[.int .i64 1, .string ⟨#[97, 110, 110]⟩, .int .i64 0, .string ⟨#[0, 0, 0, 0, 0, 0, 0, 0, 0, 0, 0, 0, 0, 0, 0, 0]⟩, .string ⟨#[103, 111, 110, 101, 32, 97, 110, 110]⟩]] wx fun x w' => x = .returned (.tuple #[.string (tx (wireL recW1)), .nilIface]) ∧ Below wx.heap.size wx w') := hide (fun wx hk => write_ok recW1 rec1_right wx hk)
  have MK : Hid (∀ wx, TabK wx → Calls Tryd.prog 24 #[.agg #[.int .i64 1, .string ⟨#[97, 110, 110]⟩, .int .i64 0, .string ⟨#[0, 0, 0, 0, 0, 0, 0, 0, 0, 0, 0, 0, 0, 0, 0, 0]⟩, .string ⟨#[103, 111, 110, 101, 32, 97, 110, 110]⟩]] wx fun e w' => e = .returned (.string (markR recW1)) ∧ Below wx.heap.size wx w') := hide (fun wx hk => markRec_any recW1 wx rec1_fit hk)
  have hpv : parseV (wireL recW1) = .tuple #[.agg #[.int .i64 1, .string ⟨#[97, 110, 110]⟩, .int .i64 0, .string ⟨#[0, 0, 0, 0, 0, 0, 0, 0, 0, 0, 0, 0, 0, 0, 0, 0]⟩, .string ⟨#[103, 111, 110, 101, 32, 97, 110, 110]⟩], .nilIface] := parseV_some (parseL_iff.2 ⟨rec1_right, rfl⟩)
  have P0 := fun wx (hk : TabK wx) => parse_any (wireL recW1) wx hk
  rw [hpv] at P0
  have PA := hide P0
  have hsz : (tx (wireL recW1)).size = 48 := rec1_len
  have hmid := rec1_mid
  have hmark := rec1_mark
  have hq1 : ((tx (wireL recW1)).extract 16 21).toList = [1, 3, 97, 110, 110] := by rw [hmid, ByteArray.toList_eq]
  have hq2 : (((tx (wireL recW1)).extract 0 16).toList == (markR recW1).toList) = true := by rw [hmark]; simp
  have hne : ∀ w : World, (binOp .neq 31 .nilIface .nilIface).run Tryd.prog w = .ok (.bool false) w := fun w => by kernel_rfl
  have heq : ∀ w : World, (binOp .eql 31 .nilIface .nilIface).run Tryd.prog w = .ok (.bool true) w := fun w => by kernel_rfl
  have hre := recW_eql 1 ⟨#[97, 110, 110]⟩ 0 ⟨#[0, 0, 0, 0, 0, 0, 0, 0, 0, 0, 0, 0, 0, 0, 0, 0]⟩ ⟨#[103, 111, 110, 101, 32, 97, 110, 110]⟩
  clear P0 hpv bel hK hmid hmark
  generalize markR recW1 = ma at MK hq2
  generalize wireL recW1 = WL at WO PA hsz hq1 hq2
  go_enter Tryd.func17, Tryd.ntmps17
  go_upto_region 2 with fail
  generalize w.alloc (.cells #[.int .i64 1, .string ⟨#[97, 110, 110]⟩, .int .i64 0, .string ⟨#[0, 0, 0, 0, 0, 0, 0, 0, 0, 0, 0, 0, 0, 0, 0, 0]⟩, .string ⟨#[103, 111, 110, 101, 32, 97, 110, 110]⟩] 23) = W1 at X0 BL ⊢
  have CC := hide (fun wx (hb : Below W1.heap.size W1 wx) => (show wx.cell? ⟨w.heap.size, 0, none⟩ = some (.int .i64 1) ∧ wx.cell? ⟨w.heap.size, 1, none⟩ = some (.string ⟨#[97, 110, 110]⟩) ∧ wx.cell? ⟨w.heap.size, 2, none⟩ = some (.int .i64 0) ∧ wx.cell? ⟨w.heap.size, 3, none⟩ = some (.string ⟨#[0, 0, 0, 0, 0, 0, 0, 0, 0, 0, 0, 0, 0, 0, 0, 0]⟩) ∧ wx.cell? ⟨w.heap.size, 4, none⟩ = some (.string ⟨#[103, 111, 110, 101, 32, 97, 110, 110]⟩) from ⟨(X0.out.below hb X0.out.lt).cell 0, (X0.out.below hb X0.out.lt).cell 1, (X0.out.below hb X0.out.lt).cell 2, (X0.out.below hb X0.out.lt).cell 3, (X0.out.below hb X0.out.lt).cell 4⟩))
  have TT := hide (fun wx (hb : Below W1.heap.size W1 wx) => KK.out wx (BL.out.trans (hb.mono BL.out.size)))
  obtain ⟨c0, c1, c2, c3, c4⟩ := CC.out _ (Below.refl _ W1)
  have WX := hide (WO.out W1 (TT.out _ (Below.refl _ W1)))
  go_upto_region 3 with (go_at_call 8; (with_reducible refine WX.out.mono ?_); rintro y w2 ⟨rfl, hb2⟩; have B2 := hide hb2; clear hb2)
  clear c0 c1 c2 c3 c4
  obtain ⟨c0, c1, c2, c3, c4⟩ := CC.out _ B2.out
  have BD := hide B2.out.drew
  have MD := hide (MK.out _ (TT.out _ BD.out))
  go_cut [29] (fun s29 wx => s29 = .bool false ∧ Below W1.heap.size W1 wx)
  case first =>
    go_region_held3 (fun wx => wx.cell? ⟨w.heap.size, 0, none⟩ = some (.int .i64 1) ∧ wx.cell? ⟨w.heap.size, 1, none⟩ = some (.string ⟨#[97, 110, 110]⟩) ∧ wx.cell? ⟨w.heap.size, 2, none⟩ = some (.int .i64 0) ∧ wx.cell? ⟨w.heap.size, 3, none⟩ = some (.string ⟨#[0, 0, 0, 0, 0, 0, 0, 0, 0, 0, 0, 0, 0, 0, 0, 0]⟩) ∧ wx.cell? ⟨w.heap.size, 4, none⟩ = some (.string ⟨#[103, 111, 110, 101, 32, 97, 110, 110]⟩)) (first | (with_reducible exact K3.out) | go_keep)
      ((go_at_call 24; (with_reducible refine MD.out.mono ?_); rintro y w3 ⟨rfl, hb3⟩; have B3 := hide (BD.out.trans (hb3.mono BD.out.size)); have K3 := hide (CC.out _ B3.out); clear hb3))
    all_goals
      go_wp2
      go_meet
      exact ⟨rfl, B3.out⟩
  case rest =>
    obtain ⟨rfl, hbc⟩ := hcut
    have BC := hide hbc
    clear hbc c0 c1 c2 c3 c4
    have PX := hide (PA.out _ (TT.out _ BC.out))
    go_upto_region 6 with (go_at_call 13; (with_reducible refine PX.out.mono ?_); rintro y w5 ⟨rfl, hb5⟩; have B5 := hide (BC.out.trans (hb5.mono BC.out.size)); clear hb5)
    have l5 := B5.out.size
    have lw := X0.out.lt
    obtain ⟨c0, c1, c2, c3, c4⟩ := CC.out _ (B5.out.alloc l5 (.cells #[.int .i64 1, .string ⟨#[97, 110, 110]⟩, .int .i64 0, .string ⟨#[0, 0, 0, 0, 0, 0, 0, 0, 0, 0, 0, 0, 0, 0, 0, 0]⟩, .string ⟨#[103, 111, 110, 101, 32, 97, 110, 110]⟩] 23))
    have BF := hide (B5.out.alloc l5 (.cells #[.int .i64 1, .string ⟨#[97, 110, 110]⟩, .int .i64 0, .string ⟨#[0, 0, 0, 0, 0, 0, 0, 0, 0, 0, 0, 0, 0, 0, 0, 0]⟩, .string ⟨#[103, 111, 110, 101, 32, 97, 110, 110]⟩] 23))
    have XX := hide (HasR.new w5 23 #[.int .i64 1, .string ⟨#[97, 110, 110]⟩, .int .i64 0, .string ⟨#[0, 0, 0, 0, 0, 0, 0, 0, 0, 0, 0, 0, 0, 0, 0, 0]⟩, .string ⟨#[103, 111, 110, 101, 32, 97, 110, 110]⟩])
    generalize w5.alloc (.cells #[.int .i64 1, .string ⟨#[97, 110, 110]⟩, .int .i64 0, .string ⟨#[0, 0, 0, 0, 0, 0, 0, 0, 0, 0, 0, 0, 0, 0, 0, 0]⟩, .string ⟨#[103, 111, 110, 101, 32, 97, 110, 110]⟩] 23) = w6 at c0 c1 c2 c3 c4 BF XX ⊢
    have x0 : w6.cell? ⟨w5.heap.size, 0, none⟩ = some (.int .i64 1) := XX.out.cell 0
    have x1 : w6.cell? ⟨w5.heap.size, 1, none⟩ = some (.string ⟨#[97, 110, 110]⟩) := XX.out.cell 1
    have x2 : w6.cell? ⟨w5.heap.size, 2, none⟩ = some (.int .i64 0) := XX.out.cell 2
    have x3 : w6.cell? ⟨w5.heap.size, 3, none⟩ = some (.string ⟨#[0, 0, 0, 0, 0, 0, 0, 0, 0, 0, 0, 0, 0, 0, 0, 0]⟩) := XX.out.cell 3
    have x4 : w6.cell? ⟨w5.heap.size, 4, none⟩ = some (.string ⟨#[103, 111, 110, 101, 32, 97, 110, 110]⟩) := XX.out.cell 4
    go_wp2
    go_ret
    exact ⟨rfl, BL.out.trans (BF.out.mono BL.out.size)⟩
end Go.Proofs.YtkbaalenbpgheaaDoor

/- What is written is that record: the law's own walk. -/
namespace Go.Proofs.YtkbaalenbpgheaaDoor
open Go.RowKit
attribute [local go_sem ↓] Go.wp_at_zero Go.wp_at_succ
theorem parse_take {r : Rec} (h : RightR r) {c : Nat} (hc : c < (wireL r).length) : parseL ((wireL r).take c) = none := by
  cases hp : parseL ((wireL r).take c) with
  | none => rfl
  | some x =>
    obtain ⟨hx, e⟩ := parseL_iff.1 hp
    have h1 : wireL r = wireL x ++ (wireL r).drop c := by rw [← e, List.take_append_drop]
    have h2 := first_wire hx ((wireL r).drop c)
    rw [← h1] at h2
    have h3 := first_wire h []
    rw [List.append_nil, h2] at h3
    have h4 := Option.some.inj h3
    have := congrArg List.length e
    rw [List.length_take, h4] at this
    omega
theorem parse_more {r : Rec} (h : RightR r) {m : List UInt8} (hm : m ≠ []) : parseL (wireL r ++ m) = none := by
  cases hp : parseL (wireL r ++ m) with
  | none => rfl
  | some x =>
    obtain ⟨hx, e⟩ := parseL_iff.1 hp
    have h2 := first_wire h m
    have h3 := first_wire hx []
    rw [List.append_nil, ← e, h2] at h3
    have h4 := Option.some.inj h3
    have := congrArg List.length e
    rw [List.length_append, ← h4] at this
    exact absurd (List.eq_nil_of_length_eq_zero (by omega)) hm
theorem parse_self {r : Rec} (h : RightR r) : parseL (wireL r) = some r := parseL_iff.2 ⟨h, rfl⟩
theorem tx_addB (x : List UInt8) (b : ByteArray) : tx x ++ b = tx (x ++ b.data.toList) := by
  apply ByteArray.ext
  rw [ByteArray.data_append]
  apply Array.toList_inj.1
  rw [Array.toList_append]
  rfl
theorem wireL_le {r : Rec} (h : RightR r) : (wireL r).length ≤ 463 := by
  rw [wireL_len]
  have := nameB_len h.s
  have := h.p
  have := h.d
  omega
theorem ret_valB {v : Value} {c : Nat} (h : v = .int .i64 (c : Int)) : Ending.returned v = Ending.returned (.int .i64 (c : Int)) := by rw [h]
set_option maxRecDepth 100000 in
set_option maxHeartbeats 400000 in
theorem pick_any (x : Int) (n : Nat) (h0 : 0 < n) (hn : n ≤ 1000000) (w : World) :
    Calls Tryd.prog 18 #[.int .i64 x, .int .i64 n] w fun e w' => ∃ c : Nat, c < n ∧ e = .returned (.int .i64 c) ∧ w' = w := by
  have x1 : IntKind.u64.wrap (n : Int) = (n : Int) := by rw [IntKind.wrap_u64]; omega
  have x0 : 0 ≤ IntKind.u64.wrap x := by rw [IntKind.wrap_u64]; omega
  have x00 : IntKind.u64.wrap x < 18446744073709551616 := by rw [IntKind.wrap_u64]; omega
  generalize hu : IntKind.u64.wrap x = u at x0 x00
  have x2 : 0 ≤ u % (n : Int) := Int.emod_nonneg _ (by omega)
  have x3 : u % (n : Int) < (n : Int) := Int.emod_lt_of_pos _ (by omega)
  obtain ⟨c, hc⟩ : ∃ c : Nat, u % (n : Int) = (c : Int) := ⟨(u % (n : Int)).toNat, by omega⟩
  have x4 : IntKind.i64.wrap (c : Int) = (c : Int) := by rw [IntKind.wrap_i64]; omega
  go_enter Tryd.func18, Tryd.ntmps18
  go_wp2
  go_ret
  exact ⟨c, by omega, ret_valB rfl, rfl⟩
set_option maxRecDepth 100000 in
set_option maxHeartbeats 4000000 in
theorem back_far0 (q : Int) (s : ByteArray) (g : Int) (p d : ByteArray) (l : List UInt8) (cut : Int) (more : ByteArray) (w : World)  (n0 : 40 < s.size) : Calls Tryd.prog 4 #[.agg #[.int .i64 q, .string s, .int .i64 g, .string p, .string d], .string (tx l), .int .i64 cut, .string more] w fun x w' => x = .returned (.bool true) ∧ Below w.heap.size w w' := by
  have bel : Below w.heap.size w (w.alloc (.cells #[.int .i64 q, .string s, .int .i64 g, .string p, .string d] 23)) := (Below.refl _ w).alloc (Nat.le_refl _) _
  have e0 : (40 : Int) < (s.size : Int) := by omega
  have BL := hide bel
  clear bel
  go_enter Tryd.func4, Tryd.ntmps4
  go_wp2
  go_ret
  exact ⟨rfl, BL.out⟩
set_option maxRecDepth 100000 in
set_option maxHeartbeats 4000000 in
theorem back_far1 (q : Int) (s : ByteArray) (g : Int) (p d : ByteArray) (l : List UInt8) (cut : Int) (more : ByteArray) (w : World) (f0 : s.size ≤ 40) (n1 : 40 < p.size) : Calls Tryd.prog 4 #[.agg #[.int .i64 q, .string s, .int .i64 g, .string p, .string d], .string (tx l), .int .i64 cut, .string more] w fun x w' => x = .returned (.bool true) ∧ Below w.heap.size w w' := by
  have bel : Below w.heap.size w (w.alloc (.cells #[.int .i64 q, .string s, .int .i64 g, .string p, .string d] 23)) := (Below.refl _ w).alloc (Nat.le_refl _) _
  have e0 : (s.size : Int) ≤ 40 := by omega
  have e1 : (40 : Int) < (p.size : Int) := by omega
  have BL := hide bel
  clear bel
  go_enter Tryd.func4, Tryd.ntmps4
  go_wp2
  go_ret
  exact ⟨rfl, BL.out⟩
set_option maxRecDepth 100000 in
set_option maxHeartbeats 4000000 in
theorem back_far2 (q : Int) (s : ByteArray) (g : Int) (p d : ByteArray) (l : List UInt8) (cut : Int) (more : ByteArray) (w : World) (f0 : s.size ≤ 40) (f1 : p.size ≤ 40) (n2 : 450 < d.size) : Calls Tryd.prog 4 #[.agg #[.int .i64 q, .string s, .int .i64 g, .string p, .string d], .string (tx l), .int .i64 cut, .string more] w fun x w' => x = .returned (.bool true) ∧ Below w.heap.size w w' := by
  have bel : Below w.heap.size w (w.alloc (.cells #[.int .i64 q, .string s, .int .i64 g, .string p, .string d] 23)) := (Below.refl _ w).alloc (Nat.le_refl _) _
  have e0 : (s.size : Int) ≤ 40 := by omega
  have e1 : (p.size : Int) ≤ 40 := by omega
  have e2 : (450 : Int) < (d.size : Int) := by omega
  have BL := hide bel
  clear bel
  go_enter Tryd.func4, Tryd.ntmps4
  go_wp2
  go_ret
  exact ⟨rfl, BL.out⟩
set_option maxRecDepth 100000 in
set_option maxHeartbeats 4000000 in
theorem back_far3 (q : Int) (s : ByteArray) (g : Int) (p d : ByteArray) (l : List UInt8) (cut : Int) (more : ByteArray) (w : World) (f0 : s.size ≤ 40) (f1 : p.size ≤ 40) (f2 : d.size ≤ 450) (n3 : 1500 < (tx l).size) : Calls Tryd.prog 4 #[.agg #[.int .i64 q, .string s, .int .i64 g, .string p, .string d], .string (tx l), .int .i64 cut, .string more] w fun x w' => x = .returned (.bool true) ∧ Below w.heap.size w w' := by
  have bel : Below w.heap.size w (w.alloc (.cells #[.int .i64 q, .string s, .int .i64 g, .string p, .string d] 23)) := (Below.refl _ w).alloc (Nat.le_refl _) _
  have e0 : (s.size : Int) ≤ 40 := by omega
  have e1 : (p.size : Int) ≤ 40 := by omega
  have e2 : (d.size : Int) ≤ 450 := by omega
  have e3 : (1500 : Int) < ((tx l).size : Int) := by omega
  have BL := hide bel
  clear bel
  go_enter Tryd.func4, Tryd.ntmps4
  go_wp2
  go_ret
  exact ⟨rfl, BL.out⟩
set_option maxRecDepth 100000 in
set_option maxHeartbeats 4000000 in
theorem back_far4 (q : Int) (s : ByteArray) (g : Int) (p d : ByteArray) (l : List UInt8) (cut : Int) (more : ByteArray) (w : World) (f0 : s.size ≤ 40) (f1 : p.size ≤ 40) (f2 : d.size ≤ 450) (f3 : (tx l).size ≤ 1500) (n4 : 60 < more.size) : Calls Tryd.prog 4 #[.agg #[.int .i64 q, .string s, .int .i64 g, .string p, .string d], .string (tx l), .int .i64 cut, .string more] w fun x w' => x = .returned (.bool true) ∧ Below w.heap.size w w' := by
  have bel : Below w.heap.size w (w.alloc (.cells #[.int .i64 q, .string s, .int .i64 g, .string p, .string d] 23)) := (Below.refl _ w).alloc (Nat.le_refl _) _
  have e0 : (s.size : Int) ≤ 40 := by omega
  have e1 : (p.size : Int) ≤ 40 := by omega
  have e2 : (d.size : Int) ≤ 450 := by omega
  have e3 : ((tx l).size : Int) ≤ 1500 := by omega
  have e4 : (60 : Int) < (more.size : Int) := by omega
  have BL := hide bel
  clear bel
  go_enter Tryd.func4, Tryd.ntmps4
  go_wp2
  go_ret
  exact ⟨rfl, BL.out⟩
set_option maxRecDepth 100000 in
set_option maxHeartbeats 4000000 in
theorem back_none_bad (q : Int) (s : ByteArray) (g : Int) (p d : ByteArray) (l : List UInt8) (cut : Int) (more : ByteArray) (w : World) (f0 : s.size ≤ 40) (f1 : p.size ≤ 40) (f2 : d.size ≤ 450) (f3 : (tx l).size ≤ 1500) (f4 : more.size ≤ 60) (hp : parseL l = none) (hr : rightI q s g p d = false) (hK : TabK w) : Calls Tryd.prog 4 #[.agg #[.int .i64 q, .string s, .int .i64 g, .string p, .string d], .string (tx l), .int .i64 cut, .string more] w fun x w' => x = .returned (.bool true) ∧ Below w.heap.size w w' := by
  have bel : Below w.heap.size w (w.alloc (.cells #[.int .i64 q, .string s, .int .i64 g, .string p, .string d] 23)) := (Below.refl _ w).alloc (Nat.le_refl _) _
  have X0 := hide (HasR.new w 23 #[.int .i64 q, .string s, .int .i64 g, .string p, .string d])
  have e0 : (s.size : Int) ≤ 40 := by omega
  have e1 : (p.size : Int) ≤ 40 := by omega
  have e2 : (d.size : Int) ≤ 450 := by omega
  have e3 : ((tx l).size : Int) ≤ 1500 := by omega
  have e4 : (more.size : Int) ≤ 60 := by omega
  have BL := hide bel
  have KK := hide (fun wx (hb : Below w.heap.size w wx) => hK.below hb hK.lt)
  have WF := hide (fun wx (hk : TabK wx) => written_any wx hk)
  have hne : ∀ w : World, (binOp .neq 31 .nilIface .nilIface).run Tryd.prog w = .ok (.bool false) w := fun w => by kernel_rfl
  have heq : ∀ w : World, (binOp .eql 31 .nilIface .nilIface).run Tryd.prog w = .ok (.bool true) w := fun w => by kernel_rfl
  have hen : ∀ (n : Int) (w : World), (binOp .neq 31 (.iface 27 (.int .i64 n)) .nilIface).run Tryd.prog w = .ok (.bool true) w := fun n w => by kernel_rfl
  have hee : ∀ (n : Int) (w : World), (binOp .eql 31 (.iface 27 (.int .i64 n)) .nilIface).run Tryd.prog w = .ok (.bool false) w := fun n w => by kernel_rfl
  have PT : Hid (∀ wx, TabK wx → Calls Tryd.prog 13 #[.string (tx l)] wx fun y w' => y = .returned (.tuple #[.agg #[.int .i64 0, .string ⟨#[]⟩, .int .i64 0, .string ⟨#[]⟩, .string ⟨#[]⟩], .iface 27 (.int .i64 3)]) ∧ Below wx.heap.size wx w') := hide (fun wx hk => by have h := parse_any l wx hk; rw [parseV_none hp] at h; exact h)
  clear hp
  have WB := hide (fun wx => write_bad q s g p d wx hr)
  have RI0 := fun wx => rightI_any q s g p d wx
  rw [hr] at RI0
  have RI := hide RI0
  clear RI0 hr
  clear bel hK f0 f1 f2 f3 f4
  go_enter Tryd.func4, Tryd.ntmps4
  go_upto_region 1 with fail
  generalize w.alloc (.cells #[.int .i64 q, .string s, .int .i64 g, .string p, .string d] 23) = W1 at X0 BL ⊢
  have CC := hide (fun wx (hb : Below W1.heap.size W1 wx) => (show wx.cell? ⟨w.heap.size, 0, none⟩ = some (.int .i64 q) ∧ wx.cell? ⟨w.heap.size, 1, none⟩ = some (.string s) ∧ wx.cell? ⟨w.heap.size, 2, none⟩ = some (.int .i64 g) ∧ wx.cell? ⟨w.heap.size, 3, none⟩ = some (.string p) ∧ wx.cell? ⟨w.heap.size, 4, none⟩ = some (.string d) from ⟨(X0.out.below hb X0.out.lt).cell 0, (X0.out.below hb X0.out.lt).cell 1, (X0.out.below hb X0.out.lt).cell 2, (X0.out.below hb X0.out.lt).cell 3, (X0.out.below hb X0.out.lt).cell 4⟩))
  have TT := hide (fun wx (hb : Below W1.heap.size W1 wx) => KK.out wx (BL.out.trans (hb.mono BL.out.size)))
  obtain ⟨c0, c1, c2, c3, c4⟩ := CC.out _ (Below.refl _ W1)
  have WFX := hide (WF.out W1 (TT.out _ (Below.refl _ W1)))
  go_upto_region 6 with (first
    | (go_at_call 17; (with_reducible refine WFX.out.mono ?_); rintro y w2 ⟨rfl, hb2⟩; have B2 := hide hb2; have PTX := hide (PT.out _ (TT.out _ hb2)); clear hb2)
    | (go_at_call 13; (with_reducible refine PTX.out.mono ?_); rintro y w3 ⟨rfl, hb3⟩; have B3 := hide (B2.out.trans (hb3.mono B2.out.size)); clear hb3))
  clear c0 c1 c2 c3 c4 PT WF WFX
  have B4 := hide (B3.out.alloc B3.out.size (.cells #[.int .i64 0, .string ⟨#[]⟩, .int .i64 0, .string ⟨#[]⟩, .string ⟨#[]⟩] 23))
  have XX := hide (HasR.new w3 23 #[.int .i64 0, .string ⟨#[]⟩, .int .i64 0, .string ⟨#[]⟩, .string ⟨#[]⟩])
  generalize w3.alloc (.cells #[.int .i64 0, .string ⟨#[]⟩, .int .i64 0, .string ⟨#[]⟩, .string ⟨#[]⟩] 23) = w4 at B4 XX ⊢
  obtain ⟨c0, c1, c2, c3, c4⟩ := CC.out _ B4.out
  have x0 : w4.cell? ⟨w3.heap.size, 0, none⟩ = some (.int .i64 0) := XX.out.cell 0
  have x1 : w4.cell? ⟨w3.heap.size, 1, none⟩ = some (.string ⟨#[]⟩) := XX.out.cell 1
  have x2 : w4.cell? ⟨w3.heap.size, 2, none⟩ = some (.int .i64 0) := XX.out.cell 2
  have x3 : w4.cell? ⟨w3.heap.size, 3, none⟩ = some (.string ⟨#[]⟩) := XX.out.cell 3
  have x4 : w4.cell? ⟨w3.heap.size, 4, none⟩ = some (.string ⟨#[]⟩) := XX.out.cell 4
  clear x0 x1 x2 x3 x4
  go_wp2_with (first
    | (go_at_call 8; (with_reducible refine (WB.out _).mono ?_); rintro y w7 ⟨rfl, hb7⟩; have B7 := hide (B4.out.trans (hb7.mono B4.out.size)); obtain ⟨d0, d1, d2, d3, d4⟩ := CC.out _ B7.out; clear hb7)
    | (go_at_call 10; (with_reducible refine (RI.out _).mono ?_); rintro y w8 ⟨rfl, hb8⟩; have B8 := hide (B7.out.trans (hb8.mono B7.out.size)); clear hb8))
  go_ret
  exact ⟨rfl, BL.out.trans (B8.out.mono BL.out.size)⟩
set_option maxRecDepth 100000 in
set_option maxHeartbeats 4000000 in
theorem back_none_nil (r : Rec) (l : List UInt8) (cut : Int) (w : World) (f0 : r.s.size ≤ 40) (f1 : r.p.size ≤ 40) (f2 : r.d.size ≤ 450) (f3 : (tx l).size ≤ 1500)  (hp : parseL l = none) (hR : RightR r) (hK : TabK w) : Calls Tryd.prog 4 #[.agg #[.int .i64 (r.q : Int), .string r.s, .int .i64 (r.g : Int), .string r.p, .string r.d], .string (tx l), .int .i64 cut, .string ⟨#[]⟩] w fun x w' => x = .returned (.bool true) ∧ Below w.heap.size w w' := by
  have bel : Below w.heap.size w (w.alloc (.cells #[.int .i64 (r.q : Int), .string r.s, .int .i64 (r.g : Int), .string r.p, .string r.d] 23)) := (Below.refl _ w).alloc (Nat.le_refl _) _
  have X0 := hide (HasR.new w 23 #[.int .i64 (r.q : Int), .string r.s, .int .i64 (r.g : Int), .string r.p, .string r.d])
  have e0 : (r.s.size : Int) ≤ 40 := by omega
  have e1 : (r.p.size : Int) ≤ 40 := by omega
  have e2 : (r.d.size : Int) ≤ 450 := by omega
  have e3 : ((tx l).size : Int) ≤ 1500 := by omega
  have BL := hide bel
  have KK := hide (fun wx (hb : Below w.heap.size w wx) => hK.below hb hK.lt)
  have WF := hide (fun wx (hk : TabK wx) => written_any wx hk)
  have hne : ∀ w : World, (binOp .neq 31 .nilIface .nilIface).run Tryd.prog w = .ok (.bool false) w := fun w => by kernel_rfl
  have heq : ∀ w : World, (binOp .eql 31 .nilIface .nilIface).run Tryd.prog w = .ok (.bool true) w := fun w => by kernel_rfl
  have hen : ∀ (n : Int) (w : World), (binOp .neq 31 (.iface 27 (.int .i64 n)) .nilIface).run Tryd.prog w = .ok (.bool true) w := fun n w => by kernel_rfl
  have hee : ∀ (n : Int) (w : World), (binOp .eql 31 (.iface 27 (.int .i64 n)) .nilIface).run Tryd.prog w = .ok (.bool false) w := fun n w => by kernel_rfl
  have PT : Hid (∀ wx, TabK wx → Calls Tryd.prog 13 #[.string (tx l)] wx fun y w' => y = .returned (.tuple #[.agg #[.int .i64 0, .string ⟨#[]⟩, .int .i64 0, .string ⟨#[]⟩, .string ⟨#[]⟩], .iface 27 (.int .i64 3)]) ∧ Below wx.heap.size wx w') := hide (fun wx hk => by have h := parse_any l wx hk; rw [parseV_none hp] at h; exact h)
  clear hp
  have WO := hide (fun wx (hk : TabK wx) => write_ok r hR wx hk)
  have PR : Hid (∀ wx, TabK wx → Calls Tryd.prog 13 #[.string (tx (wireL r))] wx fun y w' => y = .returned (.tuple #[.agg #[.int .i64 (r.q : Int), .string r.s, .int .i64 (r.g : Int), .string r.p, .string r.d], .nilIface]) ∧ Below wx.heap.size wx w') := hide (fun wx hk => by have h := parse_any (wireL r) wx hk; rw [parseV_some (parse_self hR)] at h; exact h)
  have PC : Hid (∀ c : Nat, c < (wireL r).length → ∀ wx, TabK wx → Calls Tryd.prog 13 #[.string (tx ((wireL r).take c))] wx fun y w' => y = .returned (.tuple #[.agg #[.int .i64 0, .string ⟨#[]⟩, .int .i64 0, .string ⟨#[]⟩, .string ⟨#[]⟩], .iface 27 (.int .i64 3)]) ∧ Below wx.heap.size wx w') := hide (fun c hc wx hk => by have h := parse_any ((wireL r).take c) wx hk; rw [parseV_none (parse_take hR hc)] at h; exact h)
  have hle := wireL_le hR
  have hpos := wireL_ne r
  have PK := hide (fun wx => pick_any cut (wireL r).length hpos (by omega) wx)
  have hszr : (tx (wireL r)).size = (wireL r).length := rfl
  have hzi : ((wireL r).length : Int) ≤ 463 := by omega
  have TK := hide (fun c => tx_take (wireL r) c)
  have hrn := recW_neq (r.q : Int) r.s (r.g : Int) r.p r.d
  have hadd : tx (wireL r) ++ (⟨#[]⟩ : ByteArray) = tx (wireL r) := by rw [tx_addB]; show tx (wireL r ++ []) = _; rw [List.append_nil]
  clear hR hpos hle
  generalize wireL r = wr at WO PR PC PK hszr hzi TK hadd
  clear bel hK f0 f1 f2 f3
  go_enter Tryd.func4, Tryd.ntmps4
  go_upto_region 1 with fail
  generalize w.alloc (.cells #[.int .i64 (r.q : Int), .string r.s, .int .i64 (r.g : Int), .string r.p, .string r.d] 23) = W1 at X0 BL ⊢
  have CC := hide (fun wx (hb : Below W1.heap.size W1 wx) => (show wx.cell? ⟨w.heap.size, 0, none⟩ = some (.int .i64 (r.q : Int)) ∧ wx.cell? ⟨w.heap.size, 1, none⟩ = some (.string r.s) ∧ wx.cell? ⟨w.heap.size, 2, none⟩ = some (.int .i64 (r.g : Int)) ∧ wx.cell? ⟨w.heap.size, 3, none⟩ = some (.string r.p) ∧ wx.cell? ⟨w.heap.size, 4, none⟩ = some (.string r.d) from ⟨(X0.out.below hb X0.out.lt).cell 0, (X0.out.below hb X0.out.lt).cell 1, (X0.out.below hb X0.out.lt).cell 2, (X0.out.below hb X0.out.lt).cell 3, (X0.out.below hb X0.out.lt).cell 4⟩))
  have TT := hide (fun wx (hb : Below W1.heap.size W1 wx) => KK.out wx (BL.out.trans (hb.mono BL.out.size)))
  obtain ⟨c0, c1, c2, c3, c4⟩ := CC.out _ (Below.refl _ W1)
  have WFX := hide (WF.out W1 (TT.out _ (Below.refl _ W1)))
  go_upto_region 6 with (first
    | (go_at_call 17; (with_reducible refine WFX.out.mono ?_); rintro y w2 ⟨rfl, hb2⟩; have B2 := hide hb2; have PTX := hide (PT.out _ (TT.out _ hb2)); clear hb2)
    | (go_at_call 13; (with_reducible refine PTX.out.mono ?_); rintro y w3 ⟨rfl, hb3⟩; have B3 := hide (B2.out.trans (hb3.mono B2.out.size)); clear hb3))
  clear c0 c1 c2 c3 c4 PT WF WFX
  have B4 := hide (B3.out.alloc B3.out.size (.cells #[.int .i64 0, .string ⟨#[]⟩, .int .i64 0, .string ⟨#[]⟩, .string ⟨#[]⟩] 23))
  have XX := hide (HasR.new w3 23 #[.int .i64 0, .string ⟨#[]⟩, .int .i64 0, .string ⟨#[]⟩, .string ⟨#[]⟩])
  generalize w3.alloc (.cells #[.int .i64 0, .string ⟨#[]⟩, .int .i64 0, .string ⟨#[]⟩, .string ⟨#[]⟩] 23) = w4 at B4 XX ⊢
  obtain ⟨c0, c1, c2, c3, c4⟩ := CC.out _ B4.out
  have x0 : w4.cell? ⟨w3.heap.size, 0, none⟩ = some (.int .i64 0) := XX.out.cell 0
  have x1 : w4.cell? ⟨w3.heap.size, 1, none⟩ = some (.string ⟨#[]⟩) := XX.out.cell 1
  have x2 : w4.cell? ⟨w3.heap.size, 2, none⟩ = some (.int .i64 0) := XX.out.cell 2
  have x3 : w4.cell? ⟨w3.heap.size, 3, none⟩ = some (.string ⟨#[]⟩) := XX.out.cell 3
  have x4 : w4.cell? ⟨w3.heap.size, 4, none⟩ = some (.string ⟨#[]⟩) := XX.out.cell 4
  clear x0 x1 x2 x3 x4
  have WOX := hide (WO.out _ (TT.out _ B4.out))
  go_upto_region 14 with (first
    | (go_at_call 8; (with_reducible refine WOX.out.mono ?_); rintro y w7 ⟨rfl, hb7⟩; have B7 := hide (B4.out.trans (hb7.mono B4.out.size)); have PRX := hide (PR.out _ (TT.out _ B7.out)); clear hb7)
    | (go_at_call 13; (with_reducible refine PRX.out.mono ?_); rintro y w8 ⟨rfl, hb8⟩; have B8 := hide (B7.out.trans (hb8.mono B7.out.size)); clear hb8))
  clear c0 c1 c2 c3 c4
  have B9 := hide (B8.out.alloc B8.out.size (.cells #[.int .i64 (r.q : Int), .string r.s, .int .i64 (r.g : Int), .string r.p, .string r.d] 23))
  have X9 := hide (HasR.new w8 23 #[.int .i64 (r.q : Int), .string r.s, .int .i64 (r.g : Int), .string r.p, .string r.d])
  generalize w8.alloc (.cells #[.int .i64 (r.q : Int), .string r.s, .int .i64 (r.g : Int), .string r.p, .string r.d] 23) = w9 at B9 X9 ⊢
  obtain ⟨c0, c1, c2, c3, c4⟩ := CC.out _ B9.out
  have y0 : w9.cell? ⟨w8.heap.size, 0, none⟩ = some (.int .i64 (r.q : Int)) := X9.out.cell 0
  have y1 : w9.cell? ⟨w8.heap.size, 1, none⟩ = some (.string r.s) := X9.out.cell 1
  have y2 : w9.cell? ⟨w8.heap.size, 2, none⟩ = some (.int .i64 (r.g : Int)) := X9.out.cell 2
  have y3 : w9.cell? ⟨w8.heap.size, 3, none⟩ = some (.string r.p) := X9.out.cell 3
  have y4 : w9.cell? ⟨w8.heap.size, 4, none⟩ = some (.string r.d) := X9.out.cell 4
  go_upto_region 17 with (first
    | (go_at_call 18; (with_reducible refine (PK.out _).mono ?_); rintro y w10 ⟨c, hc, rfl, hw10⟩; obtain rfl := hw10.symm; have hx := TK.out c; have hci : (c : Int) ≤ (wr.length : Int) := (by omega); have PCX := hide (PC.out c hc _ (TT.out _ B9.out)))
    | (go_at_call 13; (with_reducible refine PCX.out.mono ?_); rintro y w11 ⟨rfl, hb11⟩; have B11 := hide (B9.out.trans (hb11.mono B9.out.size)); clear hb11))
  clear c0 c1 c2 c3 c4 y0 y1 y2 y3 y4
  have B12 := hide (B11.out.alloc B11.out.size (.cells #[.int .i64 0, .string ⟨#[]⟩, .int .i64 0, .string ⟨#[]⟩, .string ⟨#[]⟩] 23))
  generalize w11.alloc (.cells #[.int .i64 0, .string ⟨#[]⟩, .int .i64 0, .string ⟨#[]⟩, .string ⟨#[]⟩] 23) = w12 at B12 ⊢
  have PMX := hide (PR.out _ (TT.out _ B12.out))
  go_wp2_with (go_at_call 13; (with_reducible refine PMX.out.mono ?_); rintro y w13 ⟨rfl, hb13⟩; have B13 := hide (B12.out.trans (hb13.mono B12.out.size)); clear hb13)
  go_ret
  have z := B13.out.alloc B13.out.size (.cells #[.int .i64 (r.q : Int), .string r.s, .int .i64 (r.g : Int), .string r.p, .string r.d] 23)
  exact ⟨rfl, BL.out.trans (z.mono BL.out.size)⟩
set_option maxRecDepth 100000 in
set_option maxHeartbeats 4000000 in
theorem back_none_more (r : Rec) (l : List UInt8) (cut : Int) (more : ByteArray) (w : World) (f0 : r.s.size ≤ 40) (f1 : r.p.size ≤ 40) (f2 : r.d.size ≤ 450) (f3 : (tx l).size ≤ 1500) (f4 : more.size ≤ 60) (hp : parseL l = none) (hR : RightR r) (hm : more.data.toList ≠ []) (hK : TabK w) : Calls Tryd.prog 4 #[.agg #[.int .i64 (r.q : Int), .string r.s, .int .i64 (r.g : Int), .string r.p, .string r.d], .string (tx l), .int .i64 cut, .string more] w fun x w' => x = .returned (.bool true) ∧ Below w.heap.size w w' := by
  have bel : Below w.heap.size w (w.alloc (.cells #[.int .i64 (r.q : Int), .string r.s, .int .i64 (r.g : Int), .string r.p, .string r.d] 23)) := (Below.refl _ w).alloc (Nat.le_refl _) _
  have X0 := hide (HasR.new w 23 #[.int .i64 (r.q : Int), .string r.s, .int .i64 (r.g : Int), .string r.p, .string r.d])
  have e0 : (r.s.size : Int) ≤ 40 := by omega
  have e1 : (r.p.size : Int) ≤ 40 := by omega
  have e2 : (r.d.size : Int) ≤ 450 := by omega
  have e3 : ((tx l).size : Int) ≤ 1500 := by omega
  have e4 : (more.size : Int) ≤ 60 := by omega
  have BL := hide bel
  have KK := hide (fun wx (hb : Below w.heap.size w wx) => hK.below hb hK.lt)
  have WF := hide (fun wx (hk : TabK wx) => written_any wx hk)
  have hne : ∀ w : World, (binOp .neq 31 .nilIface .nilIface).run Tryd.prog w = .ok (.bool false) w := fun w => by kernel_rfl
  have heq : ∀ w : World, (binOp .eql 31 .nilIface .nilIface).run Tryd.prog w = .ok (.bool true) w := fun w => by kernel_rfl
  have hen : ∀ (n : Int) (w : World), (binOp .neq 31 (.iface 27 (.int .i64 n)) .nilIface).run Tryd.prog w = .ok (.bool true) w := fun n w => by kernel_rfl
  have hee : ∀ (n : Int) (w : World), (binOp .eql 31 (.iface 27 (.int .i64 n)) .nilIface).run Tryd.prog w = .ok (.bool false) w := fun n w => by kernel_rfl
  have PT : Hid (∀ wx, TabK wx → Calls Tryd.prog 13 #[.string (tx l)] wx fun y w' => y = .returned (.tuple #[.agg #[.int .i64 0, .string ⟨#[]⟩, .int .i64 0, .string ⟨#[]⟩, .string ⟨#[]⟩], .iface 27 (.int .i64 3)]) ∧ Below wx.heap.size wx w') := hide (fun wx hk => by have h := parse_any l wx hk; rw [parseV_none hp] at h; exact h)
  clear hp
  have WO := hide (fun wx (hk : TabK wx) => write_ok r hR wx hk)
  have PR : Hid (∀ wx, TabK wx → Calls Tryd.prog 13 #[.string (tx (wireL r))] wx fun y w' => y = .returned (.tuple #[.agg #[.int .i64 (r.q : Int), .string r.s, .int .i64 (r.g : Int), .string r.p, .string r.d], .nilIface]) ∧ Below wx.heap.size wx w') := hide (fun wx hk => by have h := parse_any (wireL r) wx hk; rw [parseV_some (parse_self hR)] at h; exact h)
  have PC : Hid (∀ c : Nat, c < (wireL r).length → ∀ wx, TabK wx → Calls Tryd.prog 13 #[.string (tx ((wireL r).take c))] wx fun y w' => y = .returned (.tuple #[.agg #[.int .i64 0, .string ⟨#[]⟩, .int .i64 0, .string ⟨#[]⟩, .string ⟨#[]⟩], .iface 27 (.int .i64 3)]) ∧ Below wx.heap.size wx w') := hide (fun c hc wx hk => by have h := parse_any ((wireL r).take c) wx hk; rw [parseV_none (parse_take hR hc)] at h; exact h)
  have hle := wireL_le hR
  have hpos := wireL_ne r
  have PK := hide (fun wx => pick_any cut (wireL r).length hpos (by omega) wx)
  have hszr : (tx (wireL r)).size = (wireL r).length := rfl
  have hzi : ((wireL r).length : Int) ≤ 463 := by omega
  have TK := hide (fun c => tx_take (wireL r) c)
  have hrn := recW_neq (r.q : Int) r.s (r.g : Int) r.p r.d
  have hadd := tx_addB (wireL r) more
  have PM : Hid (∀ wx, TabK wx → Calls Tryd.prog 13 #[.string (tx (wireL r ++ more.data.toList))] wx fun y w' => y = .returned (.tuple #[.agg #[.int .i64 0, .string ⟨#[]⟩, .int .i64 0, .string ⟨#[]⟩, .string ⟨#[]⟩], .iface 27 (.int .i64 3)]) ∧ Below wx.heap.size wx w') := hide (fun wx hk => by have h := parse_any (wireL r ++ more.data.toList) wx hk; rw [parseV_none (parse_more hR hm)] at h; exact h)
  have hmm : (more.toList == []) = false := by rw [ByteArray.toList_eq, beq_eq_false_iff_ne]; exact hm
  clear hR hpos hle
  clear hm
  generalize wireL r ++ more.data.toList = wm at hadd PM
  generalize wireL r = wr at WO PR PC PK hszr hzi TK hadd
  clear bel hK f0 f1 f2 f3 f4
  go_enter Tryd.func4, Tryd.ntmps4
  go_upto_region 1 with fail
  generalize w.alloc (.cells #[.int .i64 (r.q : Int), .string r.s, .int .i64 (r.g : Int), .string r.p, .string r.d] 23) = W1 at X0 BL ⊢
  have CC := hide (fun wx (hb : Below W1.heap.size W1 wx) => (show wx.cell? ⟨w.heap.size, 0, none⟩ = some (.int .i64 (r.q : Int)) ∧ wx.cell? ⟨w.heap.size, 1, none⟩ = some (.string r.s) ∧ wx.cell? ⟨w.heap.size, 2, none⟩ = some (.int .i64 (r.g : Int)) ∧ wx.cell? ⟨w.heap.size, 3, none⟩ = some (.string r.p) ∧ wx.cell? ⟨w.heap.size, 4, none⟩ = some (.string r.d) from ⟨(X0.out.below hb X0.out.lt).cell 0, (X0.out.below hb X0.out.lt).cell 1, (X0.out.below hb X0.out.lt).cell 2, (X0.out.below hb X0.out.lt).cell 3, (X0.out.below hb X0.out.lt).cell 4⟩))
  have TT := hide (fun wx (hb : Below W1.heap.size W1 wx) => KK.out wx (BL.out.trans (hb.mono BL.out.size)))
  obtain ⟨c0, c1, c2, c3, c4⟩ := CC.out _ (Below.refl _ W1)
  have WFX := hide (WF.out W1 (TT.out _ (Below.refl _ W1)))
  go_upto_region 6 with (first
    | (go_at_call 17; (with_reducible refine WFX.out.mono ?_); rintro y w2 ⟨rfl, hb2⟩; have B2 := hide hb2; have PTX := hide (PT.out _ (TT.out _ hb2)); clear hb2)
    | (go_at_call 13; (with_reducible refine PTX.out.mono ?_); rintro y w3 ⟨rfl, hb3⟩; have B3 := hide (B2.out.trans (hb3.mono B2.out.size)); clear hb3))
  clear c0 c1 c2 c3 c4 PT WF WFX
  have B4 := hide (B3.out.alloc B3.out.size (.cells #[.int .i64 0, .string ⟨#[]⟩, .int .i64 0, .string ⟨#[]⟩, .string ⟨#[]⟩] 23))
  have XX := hide (HasR.new w3 23 #[.int .i64 0, .string ⟨#[]⟩, .int .i64 0, .string ⟨#[]⟩, .string ⟨#[]⟩])
  generalize w3.alloc (.cells #[.int .i64 0, .string ⟨#[]⟩, .int .i64 0, .string ⟨#[]⟩, .string ⟨#[]⟩] 23) = w4 at B4 XX ⊢
  obtain ⟨c0, c1, c2, c3, c4⟩ := CC.out _ B4.out
  have x0 : w4.cell? ⟨w3.heap.size, 0, none⟩ = some (.int .i64 0) := XX.out.cell 0
  have x1 : w4.cell? ⟨w3.heap.size, 1, none⟩ = some (.string ⟨#[]⟩) := XX.out.cell 1
  have x2 : w4.cell? ⟨w3.heap.size, 2, none⟩ = some (.int .i64 0) := XX.out.cell 2
  have x3 : w4.cell? ⟨w3.heap.size, 3, none⟩ = some (.string ⟨#[]⟩) := XX.out.cell 3
  have x4 : w4.cell? ⟨w3.heap.size, 4, none⟩ = some (.string ⟨#[]⟩) := XX.out.cell 4
  clear x0 x1 x2 x3 x4
  have WOX := hide (WO.out _ (TT.out _ B4.out))
  go_upto_region 14 with (first
    | (go_at_call 8; (with_reducible refine WOX.out.mono ?_); rintro y w7 ⟨rfl, hb7⟩; have B7 := hide (B4.out.trans (hb7.mono B4.out.size)); have PRX := hide (PR.out _ (TT.out _ B7.out)); clear hb7)
    | (go_at_call 13; (with_reducible refine PRX.out.mono ?_); rintro y w8 ⟨rfl, hb8⟩; have B8 := hide (B7.out.trans (hb8.mono B7.out.size)); clear hb8))
  clear c0 c1 c2 c3 c4
  have B9 := hide (B8.out.alloc B8.out.size (.cells #[.int .i64 (r.q : Int), .string r.s, .int .i64 (r.g : Int), .string r.p, .string r.d] 23))
  have X9 := hide (HasR.new w8 23 #[.int .i64 (r.q : Int), .string r.s, .int .i64 (r.g : Int), .string r.p, .string r.d])
  generalize w8.alloc (.cells #[.int .i64 (r.q : Int), .string r.s, .int .i64 (r.g : Int), .string r.p, .string r.d] 23) = w9 at B9 X9 ⊢
  obtain ⟨c0, c1, c2, c3, c4⟩ := CC.out _ B9.out
  have y0 : w9.cell? ⟨w8.heap.size, 0, none⟩ = some (.int .i64 (r.q : Int)) := X9.out.cell 0
  have y1 : w9.cell? ⟨w8.heap.size, 1, none⟩ = some (.string r.s) := X9.out.cell 1
  have y2 : w9.cell? ⟨w8.heap.size, 2, none⟩ = some (.int .i64 (r.g : Int)) := X9.out.cell 2
  have y3 : w9.cell? ⟨w8.heap.size, 3, none⟩ = some (.string r.p) := X9.out.cell 3
  have y4 : w9.cell? ⟨w8.heap.size, 4, none⟩ = some (.string r.d) := X9.out.cell 4
  go_upto_region 17 with (first
    | (go_at_call 18; (with_reducible refine (PK.out _).mono ?_); rintro y w10 ⟨c, hc, rfl, hw10⟩; obtain rfl := hw10.symm; have hx := TK.out c; have hci : (c : Int) ≤ (wr.length : Int) := (by omega); have PCX := hide (PC.out c hc _ (TT.out _ B9.out)))
    | (go_at_call 13; (with_reducible refine PCX.out.mono ?_); rintro y w11 ⟨rfl, hb11⟩; have B11 := hide (B9.out.trans (hb11.mono B9.out.size)); clear hb11))
  clear c0 c1 c2 c3 c4 y0 y1 y2 y3 y4
  have B12 := hide (B11.out.alloc B11.out.size (.cells #[.int .i64 0, .string ⟨#[]⟩, .int .i64 0, .string ⟨#[]⟩, .string ⟨#[]⟩] 23))
  generalize w11.alloc (.cells #[.int .i64 0, .string ⟨#[]⟩, .int .i64 0, .string ⟨#[]⟩, .string ⟨#[]⟩] 23) = w12 at B12 ⊢
  have PMX := hide (PM.out _ (TT.out _ B12.out))
  go_wp2_with (go_at_call 13; (with_reducible refine PMX.out.mono ?_); rintro y w13 ⟨rfl, hb13⟩; have B13 := hide (B12.out.trans (hb13.mono B12.out.size)); clear hb13)
  go_ret
  have z := B13.out.alloc B13.out.size (.cells #[.int .i64 0, .string ⟨#[]⟩, .int .i64 0, .string ⟨#[]⟩, .string ⟨#[]⟩] 23)
  exact ⟨rfl, BL.out.trans (z.mono BL.out.size)⟩
set_option maxRecDepth 100000 in
set_option maxHeartbeats 4000000 in
theorem back_some_bad (q : Int) (s : ByteArray) (g : Int) (p d : ByteArray) (cut : Int) (more : ByteArray) (x : Rec) (w : World) (f0 : s.size ≤ 40) (f1 : p.size ≤ 40) (f2 : d.size ≤ 450) (f3 : (tx (wireL x)).size ≤ 1500) (f4 : more.size ≤ 60) (hx : RightR x) (hr : rightI q s g p d = false) (hK : TabK w) : Calls Tryd.prog 4 #[.agg #[.int .i64 q, .string s, .int .i64 g, .string p, .string d], .string (tx (wireL x)), .int .i64 cut, .string more] w fun x w' => x = .returned (.bool true) ∧ Below w.heap.size w w' := by
  have bel : Below w.heap.size w (w.alloc (.cells #[.int .i64 q, .string s, .int .i64 g, .string p, .string d] 23)) := (Below.refl _ w).alloc (Nat.le_refl _) _
  have X0 := hide (HasR.new w 23 #[.int .i64 q, .string s, .int .i64 g, .string p, .string d])
  have e0 : (s.size : Int) ≤ 40 := by omega
  have e1 : (p.size : Int) ≤ 40 := by omega
  have e2 : (d.size : Int) ≤ 450 := by omega
  have e3 : ((tx (wireL x)).size : Int) ≤ 1500 := by omega
  have e4 : (more.size : Int) ≤ 60 := by omega
  have BL := hide bel
  have KK := hide (fun wx (hb : Below w.heap.size w wx) => hK.below hb hK.lt)
  have WF := hide (fun wx (hk : TabK wx) => written_any wx hk)
  have hne : ∀ w : World, (binOp .neq 31 .nilIface .nilIface).run Tryd.prog w = .ok (.bool false) w := fun w => by kernel_rfl
  have heq : ∀ w : World, (binOp .eql 31 .nilIface .nilIface).run Tryd.prog w = .ok (.bool true) w := fun w => by kernel_rfl
  have hen : ∀ (n : Int) (w : World), (binOp .neq 31 (.iface 27 (.int .i64 n)) .nilIface).run Tryd.prog w = .ok (.bool true) w := fun n w => by kernel_rfl
  have hee : ∀ (n : Int) (w : World), (binOp .eql 31 (.iface 27 (.int .i64 n)) .nilIface).run Tryd.prog w = .ok (.bool false) w := fun n w => by kernel_rfl
  have PT : Hid (∀ wx, TabK wx → Calls Tryd.prog 13 #[.string (tx (wireL x))] wx fun y w' => y = .returned (.tuple #[.agg #[.int .i64 (x.q : Int), .string x.s, .int .i64 (x.g : Int), .string x.p, .string x.d], .nilIface]) ∧ Below wx.heap.size wx w') := hide (fun wx hk => by have h := parse_any (wireL x) wx hk; rw [parseV_some (parse_self hx)] at h; exact h)
  have WX := hide (fun wx (hk : TabK wx) => write_ok x hx wx hk)
  clear hx
  generalize wireL x = l at PT WX f3 e3 ⊢
  have WB := hide (fun wx => write_bad q s g p d wx hr)
  have RI0 := fun wx => rightI_any q s g p d wx
  rw [hr] at RI0
  have RI := hide RI0
  clear RI0 hr
  clear bel hK f0 f1 f2 f3 f4
  go_enter Tryd.func4, Tryd.ntmps4
  go_upto_region 1 with fail
  generalize w.alloc (.cells #[.int .i64 q, .string s, .int .i64 g, .string p, .string d] 23) = W1 at X0 BL ⊢
  have CC := hide (fun wx (hb : Below W1.heap.size W1 wx) => (show wx.cell? ⟨w.heap.size, 0, none⟩ = some (.int .i64 q) ∧ wx.cell? ⟨w.heap.size, 1, none⟩ = some (.string s) ∧ wx.cell? ⟨w.heap.size, 2, none⟩ = some (.int .i64 g) ∧ wx.cell? ⟨w.heap.size, 3, none⟩ = some (.string p) ∧ wx.cell? ⟨w.heap.size, 4, none⟩ = some (.string d) from ⟨(X0.out.below hb X0.out.lt).cell 0, (X0.out.below hb X0.out.lt).cell 1, (X0.out.below hb X0.out.lt).cell 2, (X0.out.below hb X0.out.lt).cell 3, (X0.out.below hb X0.out.lt).cell 4⟩))
  have TT := hide (fun wx (hb : Below W1.heap.size W1 wx) => KK.out wx (BL.out.trans (hb.mono BL.out.size)))
  obtain ⟨c0, c1, c2, c3, c4⟩ := CC.out _ (Below.refl _ W1)
  have WFX := hide (WF.out W1 (TT.out _ (Below.refl _ W1)))
  go_upto_region 6 with (first
    | (go_at_call 17; (with_reducible refine WFX.out.mono ?_); rintro y w2 ⟨rfl, hb2⟩; have B2 := hide hb2; have PTX := hide (PT.out _ (TT.out _ hb2)); clear hb2)
    | (go_at_call 13; (with_reducible refine PTX.out.mono ?_); rintro y w3 ⟨rfl, hb3⟩; have B3 := hide (B2.out.trans (hb3.mono B2.out.size)); clear hb3))
  clear c0 c1 c2 c3 c4 PT WF WFX
  have B4 := hide (B3.out.alloc B3.out.size (.cells #[.int .i64 (x.q : Int), .string x.s, .int .i64 (x.g : Int), .string x.p, .string x.d] 23))
  have XX := hide (HasR.new w3 23 #[.int .i64 (x.q : Int), .string x.s, .int .i64 (x.g : Int), .string x.p, .string x.d])
  generalize w3.alloc (.cells #[.int .i64 (x.q : Int), .string x.s, .int .i64 (x.g : Int), .string x.p, .string x.d] 23) = w4 at B4 XX ⊢
  obtain ⟨c0, c1, c2, c3, c4⟩ := CC.out _ B4.out
  have x0 : w4.cell? ⟨w3.heap.size, 0, none⟩ = some (.int .i64 (x.q : Int)) := XX.out.cell 0
  have x1 : w4.cell? ⟨w3.heap.size, 1, none⟩ = some (.string x.s) := XX.out.cell 1
  have x2 : w4.cell? ⟨w3.heap.size, 2, none⟩ = some (.int .i64 (x.g : Int)) := XX.out.cell 2
  have x3 : w4.cell? ⟨w3.heap.size, 3, none⟩ = some (.string x.p) := XX.out.cell 3
  have x4 : w4.cell? ⟨w3.heap.size, 4, none⟩ = some (.string x.d) := XX.out.cell 4
  have WXX := hide (WX.out _ (TT.out _ B4.out))
  have hll : ((tx l).toList == (tx l).toList) = true := by simp
  go_upto_region 10 with (go_at_call 8; (with_reducible refine WXX.out.mono ?_); rintro y w5 ⟨rfl, hb5⟩; have B5 := hide (B4.out.trans (hb5.mono B4.out.size)); clear hb5)
  clear c0 c1 c2 c3 c4 x0 x1 x2 x3 x4 hll
  obtain ⟨c0, c1, c2, c3, c4⟩ := CC.out _ B5.out
  go_wp2_with (first
    | (go_at_call 8; (with_reducible refine (WB.out _).mono ?_); rintro y w7 ⟨rfl, hb7⟩; have B7 := hide (B5.out.trans (hb7.mono B5.out.size)); obtain ⟨d0, d1, d2, d3, d4⟩ := CC.out _ B7.out; clear hb7)
    | (go_at_call 10; (with_reducible refine (RI.out _).mono ?_); rintro y w8 ⟨rfl, hb8⟩; have B8 := hide (B7.out.trans (hb8.mono B7.out.size)); clear hb8))
  go_ret
  exact ⟨rfl, BL.out.trans (B8.out.mono BL.out.size)⟩
set_option maxRecDepth 100000 in
set_option maxHeartbeats 4000000 in
theorem back_some_nil (r : Rec) (cut : Int) (x : Rec) (w : World) (f0 : r.s.size ≤ 40) (f1 : r.p.size ≤ 40) (f2 : r.d.size ≤ 450) (f3 : (tx (wireL x)).size ≤ 1500)  (hx : RightR x) (hR : RightR r) (hK : TabK w) : Calls Tryd.prog 4 #[.agg #[.int .i64 (r.q : Int), .string r.s, .int .i64 (r.g : Int), .string r.p, .string r.d], .string (tx (wireL x)), .int .i64 cut, .string ⟨#[]⟩] w fun x w' => x = .returned (.bool true) ∧ Below w.heap.size w w' := by
  have bel : Below w.heap.size w (w.alloc (.cells #[.int .i64 (r.q : Int), .string r.s, .int .i64 (r.g : Int), .string r.p, .string r.d] 23)) := (Below.refl _ w).alloc (Nat.le_refl _) _
  have X0 := hide (HasR.new w 23 #[.int .i64 (r.q : Int), .string r.s, .int .i64 (r.g : Int), .string r.p, .string r.d])
  have e0 : (r.s.size : Int) ≤ 40 := by omega
  have e1 : (r.p.size : Int) ≤ 40 := by omega
  have e2 : (r.d.size : Int) ≤ 450 := by omega
  have e3 : ((tx (wireL x)).size : Int) ≤ 1500 := by omega
  have BL := hide bel
  have KK := hide (fun wx (hb : Below w.heap.size w wx) => hK.below hb hK.lt)
  have WF := hide (fun wx (hk : TabK wx) => written_any wx hk)
  have hne : ∀ w : World, (binOp .neq 31 .nilIface .nilIface).run Tryd.prog w = .ok (.bool false) w := fun w => by kernel_rfl
  have heq : ∀ w : World, (binOp .eql 31 .nilIface .nilIface).run Tryd.prog w = .ok (.bool true) w := fun w => by kernel_rfl
  have hen : ∀ (n : Int) (w : World), (binOp .neq 31 (.iface 27 (.int .i64 n)) .nilIface).run Tryd.prog w = .ok (.bool true) w := fun n w => by kernel_rfl
  have hee : ∀ (n : Int) (w : World), (binOp .eql 31 (.iface 27 (.int .i64 n)) .nilIface).run Tryd.prog w = .ok (.bool false) w := fun n w => by kernel_rfl
  have PT : Hid (∀ wx, TabK wx → Calls Tryd.prog 13 #[.string (tx (wireL x))] wx fun y w' => y = .returned (.tuple #[.agg #[.int .i64 (x.q : Int), .string x.s, .int .i64 (x.g : Int), .string x.p, .string x.d], .nilIface]) ∧ Below wx.heap.size wx w') := hide (fun wx hk => by have h := parse_any (wireL x) wx hk; rw [parseV_some (parse_self hx)] at h; exact h)
  have WX := hide (fun wx (hk : TabK wx) => write_ok x hx wx hk)
  clear hx
  generalize wireL x = l at PT WX f3 e3 ⊢
  have WO := hide (fun wx (hk : TabK wx) => write_ok r hR wx hk)
  have PR : Hid (∀ wx, TabK wx → Calls Tryd.prog 13 #[.string (tx (wireL r))] wx fun y w' => y = .returned (.tuple #[.agg #[.int .i64 (r.q : Int), .string r.s, .int .i64 (r.g : Int), .string r.p, .string r.d], .nilIface]) ∧ Below wx.heap.size wx w') := hide (fun wx hk => by have h := parse_any (wireL r) wx hk; rw [parseV_some (parse_self hR)] at h; exact h)
  have PC : Hid (∀ c : Nat, c < (wireL r).length → ∀ wx, TabK wx → Calls Tryd.prog 13 #[.string (tx ((wireL r).take c))] wx fun y w' => y = .returned (.tuple #[.agg #[.int .i64 0, .string ⟨#[]⟩, .int .i64 0, .string ⟨#[]⟩, .string ⟨#[]⟩], .iface 27 (.int .i64 3)]) ∧ Below wx.heap.size wx w') := hide (fun c hc wx hk => by have h := parse_any ((wireL r).take c) wx hk; rw [parseV_none (parse_take hR hc)] at h; exact h)
  have hle := wireL_le hR
  have hpos := wireL_ne r
  have PK := hide (fun wx => pick_any cut (wireL r).length hpos (by omega) wx)
  have hszr : (tx (wireL r)).size = (wireL r).length := rfl
  have hzi : ((wireL r).length : Int) ≤ 463 := by omega
  have TK := hide (fun c => tx_take (wireL r) c)
  have hrn := recW_neq (r.q : Int) r.s (r.g : Int) r.p r.d
  have hadd : tx (wireL r) ++ (⟨#[]⟩ : ByteArray) = tx (wireL r) := by rw [tx_addB]; show tx (wireL r ++ []) = _; rw [List.append_nil]
  clear hR hpos hle
  generalize wireL r = wr at WO PR PC PK hszr hzi TK hadd
  clear bel hK f0 f1 f2 f3
  go_enter Tryd.func4, Tryd.ntmps4
  go_upto_region 1 with fail
  generalize w.alloc (.cells #[.int .i64 (r.q : Int), .string r.s, .int .i64 (r.g : Int), .string r.p, .string r.d] 23) = W1 at X0 BL ⊢
  have CC := hide (fun wx (hb : Below W1.heap.size W1 wx) => (show wx.cell? ⟨w.heap.size, 0, none⟩ = some (.int .i64 (r.q : Int)) ∧ wx.cell? ⟨w.heap.size, 1, none⟩ = some (.string r.s) ∧ wx.cell? ⟨w.heap.size, 2, none⟩ = some (.int .i64 (r.g : Int)) ∧ wx.cell? ⟨w.heap.size, 3, none⟩ = some (.string r.p) ∧ wx.cell? ⟨w.heap.size, 4, none⟩ = some (.string r.d) from ⟨(X0.out.below hb X0.out.lt).cell 0, (X0.out.below hb X0.out.lt).cell 1, (X0.out.below hb X0.out.lt).cell 2, (X0.out.below hb X0.out.lt).cell 3, (X0.out.below hb X0.out.lt).cell 4⟩))
  have TT := hide (fun wx (hb : Below W1.heap.size W1 wx) => KK.out wx (BL.out.trans (hb.mono BL.out.size)))
  obtain ⟨c0, c1, c2, c3, c4⟩ := CC.out _ (Below.refl _ W1)
  have WFX := hide (WF.out W1 (TT.out _ (Below.refl _ W1)))
  go_upto_region 6 with (first
    | (go_at_call 17; (with_reducible refine WFX.out.mono ?_); rintro y w2 ⟨rfl, hb2⟩; have B2 := hide hb2; have PTX := hide (PT.out _ (TT.out _ hb2)); clear hb2)
    | (go_at_call 13; (with_reducible refine PTX.out.mono ?_); rintro y w3 ⟨rfl, hb3⟩; have B3 := hide (B2.out.trans (hb3.mono B2.out.size)); clear hb3))
  clear c0 c1 c2 c3 c4 PT WF WFX
  have B4 := hide (B3.out.alloc B3.out.size (.cells #[.int .i64 (x.q : Int), .string x.s, .int .i64 (x.g : Int), .string x.p, .string x.d] 23))
  have XX := hide (HasR.new w3 23 #[.int .i64 (x.q : Int), .string x.s, .int .i64 (x.g : Int), .string x.p, .string x.d])
  generalize w3.alloc (.cells #[.int .i64 (x.q : Int), .string x.s, .int .i64 (x.g : Int), .string x.p, .string x.d] 23) = w4 at B4 XX ⊢
  obtain ⟨c0, c1, c2, c3, c4⟩ := CC.out _ B4.out
  have x0 : w4.cell? ⟨w3.heap.size, 0, none⟩ = some (.int .i64 (x.q : Int)) := XX.out.cell 0
  have x1 : w4.cell? ⟨w3.heap.size, 1, none⟩ = some (.string x.s) := XX.out.cell 1
  have x2 : w4.cell? ⟨w3.heap.size, 2, none⟩ = some (.int .i64 (x.g : Int)) := XX.out.cell 2
  have x3 : w4.cell? ⟨w3.heap.size, 3, none⟩ = some (.string x.p) := XX.out.cell 3
  have x4 : w4.cell? ⟨w3.heap.size, 4, none⟩ = some (.string x.d) := XX.out.cell 4
  have WXX := hide (WX.out _ (TT.out _ B4.out))
  have hll : ((tx l).toList == (tx l).toList) = true := by simp
  go_upto_region 10 with (go_at_call 8; (with_reducible refine WXX.out.mono ?_); rintro y w5 ⟨rfl, hb5⟩; have B5 := hide (B4.out.trans (hb5.mono B4.out.size)); clear hb5)
  clear c0 c1 c2 c3 c4 x0 x1 x2 x3 x4 hll
  obtain ⟨c0, c1, c2, c3, c4⟩ := CC.out _ B5.out
  have WOX := hide (WO.out _ (TT.out _ B5.out))
  go_upto_region 14 with (first
    | (go_at_call 8; (with_reducible refine WOX.out.mono ?_); rintro y w7 ⟨rfl, hb7⟩; have B7 := hide (B5.out.trans (hb7.mono B5.out.size)); have PRX := hide (PR.out _ (TT.out _ B7.out)); clear hb7)
    | (go_at_call 13; (with_reducible refine PRX.out.mono ?_); rintro y w8 ⟨rfl, hb8⟩; have B8 := hide (B7.out.trans (hb8.mono B7.out.size)); clear hb8))
  clear c0 c1 c2 c3 c4
  have B9 := hide (B8.out.alloc B8.out.size (.cells #[.int .i64 (r.q : Int), .string r.s, .int .i64 (r.g : Int), .string r.p, .string r.d] 23))
  have X9 := hide (HasR.new w8 23 #[.int .i64 (r.q : Int), .string r.s, .int .i64 (r.g : Int), .string r.p, .string r.d])
  generalize w8.alloc (.cells #[.int .i64 (r.q : Int), .string r.s, .int .i64 (r.g : Int), .string r.p, .string r.d] 23) = w9 at B9 X9 ⊢
  obtain ⟨c0, c1, c2, c3, c4⟩ := CC.out _ B9.out
  have y0 : w9.cell? ⟨w8.heap.size, 0, none⟩ = some (.int .i64 (r.q : Int)) := X9.out.cell 0
  have y1 : w9.cell? ⟨w8.heap.size, 1, none⟩ = some (.string r.s) := X9.out.cell 1
  have y2 : w9.cell? ⟨w8.heap.size, 2, none⟩ = some (.int .i64 (r.g : Int)) := X9.out.cell 2
  have y3 : w9.cell? ⟨w8.heap.size, 3, none⟩ = some (.string r.p) := X9.out.cell 3
  have y4 : w9.cell? ⟨w8.heap.size, 4, none⟩ = some (.string r.d) := X9.out.cell 4
  go_upto_region 17 with (first
    | (go_at_call 18; (with_reducible refine (PK.out _).mono ?_); rintro y w10 ⟨c, hc, rfl, hw10⟩; obtain rfl := hw10.symm; have hx := TK.out c; have hci : (c : Int) ≤ (wr.length : Int) := (by omega); have PCX := hide (PC.out c hc _ (TT.out _ B9.out)))
    | (go_at_call 13; (with_reducible refine PCX.out.mono ?_); rintro y w11 ⟨rfl, hb11⟩; have B11 := hide (B9.out.trans (hb11.mono B9.out.size)); clear hb11))
  clear c0 c1 c2 c3 c4 y0 y1 y2 y3 y4
  have B12 := hide (B11.out.alloc B11.out.size (.cells #[.int .i64 0, .string ⟨#[]⟩, .int .i64 0, .string ⟨#[]⟩, .string ⟨#[]⟩] 23))
  generalize w11.alloc (.cells #[.int .i64 0, .string ⟨#[]⟩, .int .i64 0, .string ⟨#[]⟩, .string ⟨#[]⟩] 23) = w12 at B12 ⊢
  have PMX := hide (PR.out _ (TT.out _ B12.out))
  go_wp2_with (go_at_call 13; (with_reducible refine PMX.out.mono ?_); rintro y w13 ⟨rfl, hb13⟩; have B13 := hide (B12.out.trans (hb13.mono B12.out.size)); clear hb13)
  go_ret
  have z := B13.out.alloc B13.out.size (.cells #[.int .i64 (r.q : Int), .string r.s, .int .i64 (r.g : Int), .string r.p, .string r.d] 23)
  exact ⟨rfl, BL.out.trans (z.mono BL.out.size)⟩
set_option maxRecDepth 100000 in
set_option maxHeartbeats 4000000 in
theorem back_some_more (r : Rec) (cut : Int) (more : ByteArray) (x : Rec) (w : World) (f0 : r.s.size ≤ 40) (f1 : r.p.size ≤ 40) (f2 : r.d.size ≤ 450) (f3 : (tx (wireL x)).size ≤ 1500) (f4 : more.size ≤ 60) (hx : RightR x) (hR : RightR r) (hm : more.data.toList ≠ []) (hK : TabK w) : Calls Tryd.prog 4 #[.agg #[.int .i64 (r.q : Int), .string r.s, .int .i64 (r.g : Int), .string r.p, .string r.d], .string (tx (wireL x)), .int .i64 cut, .string more] w fun x w' => x = .returned (.bool true) ∧ Below w.heap.size w w' := by
  have bel : Below w.heap.size w (w.alloc (.cells #[.int .i64 (r.q : Int), .string r.s, .int .i64 (r.g : Int), .string r.p, .string r.d] 23)) := (Below.refl _ w).alloc (Nat.le_refl _) _
  have X0 := hide (HasR.new w 23 #[.int .i64 (r.q : Int), .string r.s, .int .i64 (r.g : Int), .string r.p, .string r.d])
  have e0 : (r.s.size : Int) ≤ 40 := by omega
  have e1 : (r.p.size : Int) ≤ 40 := by omega
  have e2 : (r.d.size : Int) ≤ 450 := by omega
  have e3 : ((tx (wireL x)).size : Int) ≤ 1500 := by omega
  have e4 : (more.size : Int) ≤ 60 := by omega
  have BL := hide bel
  have KK := hide (fun wx (hb : Below w.heap.size w wx) => hK.below hb hK.lt)
  have WF := hide (fun wx (hk : TabK wx) => written_any wx hk)
  have hne : ∀ w : World, (binOp .neq 31 .nilIface .nilIface).run Tryd.prog w = .ok (.bool false) w := fun w => by kernel_rfl
  have heq : ∀ w : World, (binOp .eql 31 .nilIface .nilIface).run Tryd.prog w = .ok (.bool true) w := fun w => by kernel_rfl
  have hen : ∀ (n : Int) (w : World), (binOp .neq 31 (.iface 27 (.int .i64 n)) .nilIface).run Tryd.prog w = .ok (.bool true) w := fun n w => by kernel_rfl
  have hee : ∀ (n : Int) (w : World), (binOp .eql 31 (.iface 27 (.int .i64 n)) .nilIface).run Tryd.prog w = .ok (.bool false) w := fun n w => by kernel_rfl
  have PT : Hid (∀ wx, TabK wx → Calls Tryd.prog 13 #[.string (tx (wireL x))] wx fun y w' => y = .returned (.tuple #[.agg #[.int .i64 (x.q : Int), .string x.s, .int .i64 (x.g : Int), .string x.p, .string x.d], .nilIface]) ∧ Below wx.heap.size wx w') := hide (fun wx hk => by have h := parse_any (wireL x) wx hk; rw [parseV_some (parse_self hx)] at h; exact h)
  have WX := hide (fun wx (hk : TabK wx) => write_ok x hx wx hk)
  clear hx
  generalize wireL x = l at PT WX f3 e3 ⊢
  have WO := hide (fun wx (hk : TabK wx) => write_ok r hR wx hk)
  have PR : Hid (∀ wx, TabK wx → Calls Tryd.prog 13 #[.string (tx (wireL r))] wx fun y w' => y = .returned (.tuple #[.agg #[.int .i64 (r.q : Int), .string r.s, .int .i64 (r.g : Int), .string r.p, .string r.d], .nilIface]) ∧ Below wx.heap.size wx w') := hide (fun wx hk => by have h := parse_any (wireL r) wx hk; rw [parseV_some (parse_self hR)] at h; exact h)
  have PC : Hid (∀ c : Nat, c < (wireL r).length → ∀ wx, TabK wx → Calls Tryd.prog 13 #[.string (tx ((wireL r).take c))] wx fun y w' => y = .returned (.tuple #[.agg #[.int .i64 0, .string ⟨#[]⟩, .int .i64 0, .string ⟨#[]⟩, .string ⟨#[]⟩], .iface 27 (.int .i64 3)]) ∧ Below wx.heap.size wx w') := hide (fun c hc wx hk => by have h := parse_any ((wireL r).take c) wx hk; rw [parseV_none (parse_take hR hc)] at h; exact h)
  have hle := wireL_le hR
  have hpos := wireL_ne r
  have PK := hide (fun wx => pick_any cut (wireL r).length hpos (by omega) wx)
  have hszr : (tx (wireL r)).size = (wireL r).length := rfl
  have hzi : ((wireL r).length : Int) ≤ 463 := by omega
  have TK := hide (fun c => tx_take (wireL r) c)
  have hrn := recW_neq (r.q : Int) r.s (r.g : Int) r.p r.d
  have hadd := tx_addB (wireL r) more
  have PM : Hid (∀ wx, TabK wx → Calls Tryd.prog 13 #[.string (tx (wireL r ++ more.data.toList))] wx fun y w' => y = .returned (.tuple #[.agg #[.int .i64 0, .string ⟨#[]⟩, .int .i64 0, .string ⟨#[]⟩, .string ⟨#[]⟩], .iface 27 (.int .i64 3)]) ∧ Below wx.heap.size wx w') := hide (fun wx hk => by have h := parse_any (wireL r ++ more.data.toList) wx hk; rw [parseV_none (parse_more hR hm)] at h; exact h)
  have hmm : (more.toList == []) = false := by rw [ByteArray.toList_eq, beq_eq_false_iff_ne]; exact hm
  clear hR hpos hle
  clear hm
  generalize wireL r ++ more.data.toList = wm at hadd PM
  generalize wireL r = wr at WO PR PC PK hszr hzi TK hadd
  clear bel hK f0 f1 f2 f3 f4
  go_enter Tryd.func4, Tryd.ntmps4
  go_upto_region 1 with fail
  generalize w.alloc (.cells #[.int .i64 (r.q : Int), .string r.s, .int .i64 (r.g : Int), .string r.p, .string r.d] 23) = W1 at X0 BL ⊢
  have CC := hide (fun wx (hb : Below W1.heap.size W1 wx) => (show wx.cell? ⟨w.heap.size, 0, none⟩ = some (.int .i64 (r.q : Int)) ∧ wx.cell? ⟨w.heap.size, 1, none⟩ = some (.string r.s) ∧ wx.cell? ⟨w.heap.size, 2, none⟩ = some (.int .i64 (r.g : Int)) ∧ wx.cell? ⟨w.heap.size, 3, none⟩ = some (.string r.p) ∧ wx.cell? ⟨w.heap.size, 4, none⟩ = some (.string r.d) from ⟨(X0.out.below hb X0.out.lt).cell 0, (X0.out.below hb X0.out.lt).cell 1, (X0.out.below hb X0.out.lt).cell 2, (X0.out.below hb X0.out.lt).cell 3, (X0.out.below hb X0.out.lt).cell 4⟩))
  have TT := hide (fun wx (hb : Below W1.heap.size W1 wx) => KK.out wx (BL.out.trans (hb.mono BL.out.size)))
  obtain ⟨c0, c1, c2, c3, c4⟩ := CC.out _ (Below.refl _ W1)
  have WFX := hide (WF.out W1 (TT.out _ (Below.refl _ W1)))
  go_upto_region 6 with (first
    | (go_at_call 17; (with_reducible refine WFX.out.mono ?_); rintro y w2 ⟨rfl, hb2⟩; have B2 := hide hb2; have PTX := hide (PT.out _ (TT.out _ hb2)); clear hb2)
    | (go_at_call 13; (with_reducible refine PTX.out.mono ?_); rintro y w3 ⟨rfl, hb3⟩; have B3 := hide (B2.out.trans (hb3.mono B2.out.size)); clear hb3))
  clear c0 c1 c2 c3 c4 PT WF WFX
  have B4 := hide (B3.out.alloc B3.out.size (.cells #[.int .i64 (x.q : Int), .string x.s, .int .i64 (x.g : Int), .string x.p, .string x.d] 23))
  have XX := hide (HasR.new w3 23 #[.int .i64 (x.q : Int), .string x.s, .int .i64 (x.g : Int), .string x.p, .string x.d])
  generalize w3.alloc (.cells #[.int .i64 (x.q : Int), .string x.s, .int .i64 (x.g : Int), .string x.p, .string x.d] 23) = w4 at B4 XX ⊢
  obtain ⟨c0, c1, c2, c3, c4⟩ := CC.out _ B4.out
  have x0 : w4.cell? ⟨w3.heap.size, 0, none⟩ = some (.int .i64 (x.q : Int)) := XX.out.cell 0
  have x1 : w4.cell? ⟨w3.heap.size, 1, none⟩ = some (.string x.s) := XX.out.cell 1
  have x2 : w4.cell? ⟨w3.heap.size, 2, none⟩ = some (.int .i64 (x.g : Int)) := XX.out.cell 2
  have x3 : w4.cell? ⟨w3.heap.size, 3, none⟩ = some (.string x.p) := XX.out.cell 3
  have x4 : w4.cell? ⟨w3.heap.size, 4, none⟩ = some (.string x.d) := XX.out.cell 4
  have WXX := hide (WX.out _ (TT.out _ B4.out))
  have hll : ((tx l).toList == (tx l).toList) = true := by simp
  go_upto_region 10 with (go_at_call 8; (with_reducible refine WXX.out.mono ?_); rintro y w5 ⟨rfl, hb5⟩; have B5 := hide (B4.out.trans (hb5.mono B4.out.size)); clear hb5)
  clear c0 c1 c2 c3 c4 x0 x1 x2 x3 x4 hll
  obtain ⟨c0, c1, c2, c3, c4⟩ := CC.out _ B5.out
  have WOX := hide (WO.out _ (TT.out _ B5.out))
  go_upto_region 14 with (first
    | (go_at_call 8; (with_reducible refine WOX.out.mono ?_); rintro y w7 ⟨rfl, hb7⟩; have B7 := hide (B5.out.trans (hb7.mono B5.out.size)); have PRX := hide (PR.out _ (TT.out _ B7.out)); clear hb7)
    | (go_at_call 13; (with_reducible refine PRX.out.mono ?_); rintro y w8 ⟨rfl, hb8⟩; have B8 := hide (B7.out.trans (hb8.mono B7.out.size)); clear hb8))
  clear c0 c1 c2 c3 c4
  have B9 := hide (B8.out.alloc B8.out.size (.cells #[.int .i64 (r.q : Int), .string r.s, .int .i64 (r.g : Int), .string r.p, .string r.d] 23))
  have X9 := hide (HasR.new w8 23 #[.int .i64 (r.q : Int), .string r.s, .int .i64 (r.g : Int), .string r.p, .string r.d])
  generalize w8.alloc (.cells #[.int .i64 (r.q : Int), .string r.s, .int .i64 (r.g : Int), .string r.p, .string r.d] 23) = w9 at B9 X9 ⊢
  obtain ⟨c0, c1, c2, c3, c4⟩ := CC.out _ B9.out
  have y0 : w9.cell? ⟨w8.heap.size, 0, none⟩ = some (.int .i64 (r.q : Int)) := X9.out.cell 0
  have y1 : w9.cell? ⟨w8.heap.size, 1, none⟩ = some (.string r.s) := X9.out.cell 1
  have y2 : w9.cell? ⟨w8.heap.size, 2, none⟩ = some (.int .i64 (r.g : Int)) := X9.out.cell 2
  have y3 : w9.cell? ⟨w8.heap.size, 3, none⟩ = some (.string r.p) := X9.out.cell 3
  have y4 : w9.cell? ⟨w8.heap.size, 4, none⟩ = some (.string r.d) := X9.out.cell 4
  go_upto_region 17 with (first
    | (go_at_call 18; (with_reducible refine (PK.out _).mono ?_); rintro y w10 ⟨c, hc, rfl, hw10⟩; obtain rfl := hw10.symm; have hx := TK.out c; have hci : (c : Int) ≤ (wr.length : Int) := (by omega); have PCX := hide (PC.out c hc _ (TT.out _ B9.out)))
    | (go_at_call 13; (with_reducible refine PCX.out.mono ?_); rintro y w11 ⟨rfl, hb11⟩; have B11 := hide (B9.out.trans (hb11.mono B9.out.size)); clear hb11))
  clear c0 c1 c2 c3 c4 y0 y1 y2 y3 y4
  have B12 := hide (B11.out.alloc B11.out.size (.cells #[.int .i64 0, .string ⟨#[]⟩, .int .i64 0, .string ⟨#[]⟩, .string ⟨#[]⟩] 23))
  generalize w11.alloc (.cells #[.int .i64 0, .string ⟨#[]⟩, .int .i64 0, .string ⟨#[]⟩, .string ⟨#[]⟩] 23) = w12 at B12 ⊢
  have PMX := hide (PM.out _ (TT.out _ B12.out))
  go_wp2_with (go_at_call 13; (with_reducible refine PMX.out.mono ?_); rintro y w13 ⟨rfl, hb13⟩; have B13 := hide (B12.out.trans (hb13.mono B12.out.size)); clear hb13)
  go_ret
  have z := B13.out.alloc B13.out.size (.cells #[.int .i64 0, .string ⟨#[]⟩, .int .i64 0, .string ⟨#[]⟩, .string ⟨#[]⟩] 23)
  exact ⟨rfl, BL.out.trans (z.mono BL.out.size)⟩
end Go.Proofs.YtkbaalenbpgheaaDoor
