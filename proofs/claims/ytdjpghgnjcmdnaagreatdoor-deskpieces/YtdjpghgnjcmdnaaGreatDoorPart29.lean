/- Texts of this proof, one behind the other. -/
import Derived.Stop.Asserts
import Derived.Deep.DeepCutAuto
import Derived.Deep.AppendLies
import Derived.Test.YtdjpghgnjcmdnaaGreatDoorPart28
/- Who follows a feed: the program's reader in memory, and what each of its calls does. -/
namespace Go.Proofs.YtdjpghgnjcmdnaaGreatDoor
open Go.RowKit Go.Sort
attribute [local go_sem ↓] Go.wp_at_zero Go.wp_at_succ
set_option linter.unusedSectionVars false
variable [Inhabited Cl] [Inhabited Ev]
theorem ptrR_nil (b : Nat) (w : World) : (binOp .eql 80 (.pointer (some ⟨b, 0, none⟩)) (.pointer none)).run Tryz.prog w = .ok (.bool false) w := by kernel_rfl
theorem Tryz.isTypeOf (n : Int) (w : World) : (callFunc 163 #[.iface 25 (.int .i64 n)]).run Tryz.prog w = .ok (.value (.iface 270 (.agg #[.pointer (some ⟨11, 25, none⟩)]))) w := by kernel_rfl
theorem Tryz.isComparable (w : World) : (callFunc 270 #[.agg #[.pointer (some ⟨11, 25, none⟩)]]).run Tryz.prog w = .ok (.value (.bool true)) w := by kernel_rfl
theorem Tryz.isMethodComparable (v : Value) (w : World) : (Go.method 441 270 v "Comparable").run Tryz.prog w = .ok (270, v) w := by kernel_rfl
theorem err88 (w : World) : (binOp .eql 45 (.iface 25 (.int .i64 8)) (.iface 25 (.int .i64 8))).run Tryz.prog w = .ok (.bool true) w := by kernel_rfl
theorem nil8 (w : World) : (binOp .eql 45 .nilIface (.iface 25 (.int .i64 8))).run Tryz.prog w = .ok (.bool false) w := by kernel_rfl
set_option maxRecDepth 100000 in
set_option maxHeartbeats 1000000 in
theorem isIn8 (w : World) : Calls Tryz.prog 164 #[.iface 25 (.int .i64 8), .iface 25 (.int .i64 8), .bool true] w fun e w' => e = .returned (.bool true) ∧ w' = w := by
  have he := err88
  go_enter Tryz.func164, Tryz.ntmps164
  go_wp2
  refine wp_loop_rounds 1 ?_
  rw [rounds_succ]
  go_wp2
  go_ret
  exact ⟨rfl, rfl⟩
set_option maxRecDepth 100000 in
set_option maxHeartbeats 1000000 in
/-- errors.Is: of none, and of nil. -/
theorem is8 (w : World) : Calls Tryz.prog 127 #[.iface 25 (.int .i64 8), .iface 25 (.int .i64 8)] w fun e w' => e = .returned (.bool true) ∧ w' = w := by
  have tT := Tryz.isTypeOf 8
  have cT := Tryz.isComparable
  have mR := Tryz.isMethodComparable
  have hq := errEq
  have I := hide (isIn8 w)
  go_enter Tryz.func127, Tryz.ntmps127
  go_wp2_with (go_at_call 164; (with_reducible refine I.out.mono ?_); rintro e w1 ⟨rfl, hw⟩; obtain rfl := hw.symm)
  go_ret
  exact ⟨rfl, rfl⟩
set_option maxRecDepth 100000 in
set_option maxHeartbeats 1000000 in
theorem isNil8 (w : World) : Calls Tryz.prog 127 #[.nilIface, .iface 25 (.int .i64 8)] w fun e w' => e = .returned (.bool false) ∧ w' = w := by
  have hq := nilEq
  have h8 := nil8
  go_enter Tryz.func127, Tryz.ntmps127
  go_wp2
  go_ret
  exact ⟨rfl, rfl⟩
set_option maxRecDepth 100000 in
set_option maxHeartbeats 400000 in
theorem rdNew_ok (vb : Nat) (w : World) :
    Calls Tryz.prog 82 #[.pointer (some ⟨vb, 0, none⟩)] w fun e w' => e = .returned (.tuple #[.pointer (some ⟨w.heap.size, 0, none⟩), .nilIface]) ∧ w' = w.alloc (.cells #[.pointer (some ⟨vb, 0, none⟩), .int .i64 0, .string ⟨#[]⟩, .int .i64 0, .map none] 133) := by
  have hq := ptrV_nil vb
  go_enter Tryz.func82, Tryz.ntmps82
  go_wp2
  go_ret2
  exact ⟨rfl, rfl⟩
/-- A reader's mark: of one that has read none it is None. -/
def markAt (read : Nat) (mark : ByteArray) : ByteArray := if read = 0 then noneB else mark
set_option maxRecDepth 100000 in
set_option maxHeartbeats 1000000 in
theorem at_any (w : World) (rb vb read lost : Nat) (mark : ByteArray) (mt : Option Nat) (nt : Nat) (τ : Tab) (h : TabV w rb 133 #[.pointer (some ⟨vb, 0, none⟩), .int .i64 (read : Int), .string mark, .int .i64 (lost : Int)] mt nt τ) :
    Calls Tryz.prog 50 #[.pointer (some ⟨rb, 0, none⟩)] w fun x w' => x = .returned (.tuple #[.int .i64 (read : Int), .string (markAt read mark)]) ∧ Below w.heap.size w w' := by
  have hq := ptrR_nil rb
  have c1 : w.cell? ⟨rb, 1, none⟩ = some (.int .i64 (read : Int)) := h.row.cell 1
  have c2 : w.cell? ⟨rb, 2, none⟩ = some (.string mark) := h.row.cell 2
  clear h
  unfold markAt
  by_cases h0 : read = 0
  · subst h0
    rw [if_pos rfl]
    unfold noneB
    go_enter Tryz.func50, Tryz.ntmps50
    go_wp2
    go_ret2
    exact ⟨rfl, Below.refl _ _⟩
  · rw [if_neg h0]
    have d1 : ((read : Int) == 0) = false := by simp; omega
    have d2 : ¬ (read : Int) = 0 := by omega
    go_enter Tryz.func50, Tryz.ntmps50
    go_wp2
    go_quiet (fail)
    go_wp2
    go_ret2
    exact ⟨rfl, below_dn (Below.refl _ _) _⟩
set_option maxRecDepth 100000 in
set_option maxHeartbeats 1000000 in
theorem lost_any (w : World) (rb vb read lost : Nat) (mark : ByteArray) (mt : Option Nat) (nt : Nat) (τ : Tab) (h : TabV w rb 133 #[.pointer (some ⟨vb, 0, none⟩), .int .i64 (read : Int), .string mark, .int .i64 (lost : Int)] mt nt τ) :
    Calls Tryz.prog 52 #[.pointer (some ⟨rb, 0, none⟩)] w fun x w' => x = .returned (.int .i64 (lost : Int)) ∧ w' = w := by
  have hq := ptrR_nil rb
  have c3 : w.cell? ⟨rb, 3, none⟩ = some (.int .i64 (lost : Int)) := h.row.cell 3
  clear h
  go_enter Tryz.func52, Tryz.ntmps52
  go_wp2
  go_ret
  exact ⟨rfl, rfl⟩
set_option maxRecDepth 100000 in
set_option maxHeartbeats 1000000 in
theorem rdCells_any (w : World) (rb vb read lost : Nat) (mark : ByteArray) (mt : Option Nat) (nt : Nat) (τ : Tab) (h : TabV w rb 133 #[.pointer (some ⟨vb, 0, none⟩), .int .i64 (read : Int), .string mark, .int .i64 (lost : Int)] mt nt τ) (hn : nt ≤ 1000) :
    Calls Tryz.prog 51 #[.pointer (some ⟨rb, 0, none⟩)] w fun x w' => ∃ u ds, x = .returned u ∧ InOrd τ ds ∧ ds.length ≤ nt ∧ RowC w' w.heap.size u ds ∧ Below w.heap.size w w' := by
  have hq := ptrR_nil rb
  have C0 := cells_any rb 133 #[.pointer (some ⟨vb, 0, none⟩), .int .i64 (read : Int), .string mark, .int .i64 (lost : Int)] mt nt τ w hn h
  rw [show (#[.pointer (some ⟨vb, 0, none⟩), .int .i64 (read : Int), .string mark, .int .i64 (lost : Int)] : Array Value).size = 4 from rfl] at C0
  have C := hide C0
  clear C0
  clear h
  go_enter Tryz.func51, Tryz.ntmps51
  go_wp2_with (go_at_call 81; (with_reducible refine C.out.mono ?_); rintro x w1 ⟨u, ds, rfl, ho, hl, hr, hb⟩)
  go_ret
  exact ⟨u, ds, rfl, ho, hl, hr, hb⟩
/-- What is read of a record, up to the read number and the mark. -/
def Took (w w' : World) (rb vb read lost : Nat) (mark : ByteArray) (mt : Option Nat) (nt : Nat) (τ' : Tab) : Prop :=
  ∃ mt', TabV w' rb 133 #[.pointer (some ⟨vb, 0, none⟩), .int .i64 (read : Int), .string mark, .int .i64 (lost : Int)] mt' (nt + 1) τ' ∧ (mt' = mt ∨ (mt = none ∧ ∃ m, mt' = some m ∧ w.heap.size ≤ m)) ∧ Stirred (rb :: mt.toList) w w'
set_option maxRecDepth 100000 in
set_option maxHeartbeats 4000000 in
theorem take_cut (w : World) (rb vb read lost : Nat) (mark : ByteArray) (mt : Option Nat) (nt : Nat) (τ : Tab) (r : Rec) (x : Ev) (er : Value) (h : TabV w rb 133 #[.pointer (some ⟨vb, 0, none⟩), .int .i64 (read : Int), .string mark, .int .i64 (lost : Int)] mt nt τ) (hO : ∀ wx, Below w.heap.size w wx → Calls Tryz.prog 126 #[.pointer (some ⟨vb, 0, none⟩), .agg #[.int .i64 (r.q : Int), .string r.s, .int .i64 (r.g : Int), .string r.p, .string r.d]] wx fun y w' => y = .returned (.tuple #[.agg #[.int .i64 x.k, .string x.s, .string x.t, .string x.r, .string x.v], er]) ∧ Below wx.heap.size wx w')
    (lo : Bool) (hE : (lo = true ∧ er = .iface 25 (.int .i64 8)) ∨ (lo = false ∧ er = .nilIface ∧ rightB x = true ∧ Brief x)) (hl : lost < 1000) (hn : nt < 1000) :
    Calls Tryz.prog 84 #[.pointer (some ⟨rb, 0, none⟩), .agg #[.int .i64 (r.q : Int), .string r.s, .int .i64 (r.g : Int), .string r.p, .string r.d]] w fun y w' => y = .returned .nilIface ∧ Took w w' rb vb read (if lo = true then lost + 1 else lost) mark mt nt (if lo = true then τ else app x τ) := by
  have bel : Below w.heap.size w (w.alloc (.cells #[.int .i64 (r.q : Int), .string r.s, .int .i64 (r.g : Int), .string r.p, .string r.d] 74)) := (Below.refl _ w).alloc (Nat.le_refl _) _
  have E0 := hide (HasR.new w 74 #[.int .i64 (r.q : Int), .string r.s, .int .i64 (r.g : Int), .string r.p, .string r.d])
  have HT := hide h
  have lr := h.row.lt
  have HOO := hide hO
  have BL := hide bel
  have c0 : w.cell? ⟨rb, 0, none⟩ = some (.pointer (some ⟨vb, 0, none⟩)) := h.row.cell 0
  clear h hO bel
  go_enter Tryz.func84, Tryz.ntmps84
  go_upto_region 1 with fail
  generalize w.alloc (.cells #[.int .i64 (r.q : Int), .string r.s, .int .i64 (r.g : Int), .string r.p, .string r.d] 74) = W1 at E0 BL ⊢
  have e0 : W1.cell? ⟨w.heap.size, 0, none⟩ = some (.int .i64 (r.q : Int)) := E0.out.cell 0
  have e1 : W1.cell? ⟨w.heap.size, 1, none⟩ = some (.string r.s) := E0.out.cell 1
  have e2 : W1.cell? ⟨w.heap.size, 2, none⟩ = some (.int .i64 (r.g : Int)) := E0.out.cell 2
  have e3 : W1.cell? ⟨w.heap.size, 3, none⟩ = some (.string r.p) := E0.out.cell 3
  have e4 : W1.cell? ⟨w.heap.size, 4, none⟩ = some (.string r.d) := E0.out.cell 4
  have k0 : W1.cell? ⟨rb, 0, none⟩ = some (.pointer (some ⟨vb, 0, none⟩)) := (BL.out.cell (p := ⟨rb, 0, none⟩) lr).trans c0
  have lw := E0.out.lt
  have ne1 : W1.heap.size ≠ rb := by omega
  have ne2 : rb ≠ W1.heap.size := by omega
  have ne3 : W1.heap.size ≠ w.heap.size := by omega
  have ne4 : w.heap.size ≠ W1.heap.size := by omega
  clear c0
  go_cut [5, 6] (fun s5 s6 wx => ∃ be : Nat, s5 = .pointer (some ⟨be, 0, none⟩) ∧ s6 = er ∧ w.heap.size ≤ be ∧ HasR wx be 69 #[.int .i64 x.k, .string x.s, .string x.t, .string x.r, .string x.v] ∧ Below w.heap.size w wx)
  case first =>
    go_region_held3 (fun wx => wx.cell? ⟨rb, 0, none⟩ = some (.pointer (some ⟨vb, 0, none⟩)) ∧ wx.cell? ⟨w.heap.size, 0, none⟩ = some (.int .i64 (r.q : Int)) ∧ wx.cell? ⟨w.heap.size, 1, none⟩ = some (.string r.s) ∧ wx.cell? ⟨w.heap.size, 2, none⟩ = some (.int .i64 (r.g : Int)) ∧ wx.cell? ⟨w.heap.size, 3, none⟩ = some (.string r.p) ∧ wx.cell? ⟨w.heap.size, 4, none⟩ = some (.string r.d)) (first | (with_reducible exact K7.out) | go_keep)
      (first
      | (go_at_call 126; (with_reducible refine (HOO.out _ BL.out.drew).mono ?_); rintro y w7 ⟨rfl, hb7⟩; have B7 := hide (BL.out.drew.trans (hb7.mono BL.out.drew.size)); have E7 := hide (E0.out.drew.below hb7 E0.out.drew.lt); have y0 : w7.cell? ⟨w.heap.size, 0, none⟩ = some (.int .i64 (r.q : Int)) := E7.out.cell 0; have y1 : w7.cell? ⟨w.heap.size, 1, none⟩ = some (.string r.s) := E7.out.cell 1; have y2 : w7.cell? ⟨w.heap.size, 2, none⟩ = some (.int .i64 (r.g : Int)) := E7.out.cell 2; have y3 : w7.cell? ⟨w.heap.size, 3, none⟩ = some (.string r.p) := E7.out.cell 3; have y4 : w7.cell? ⟨w.heap.size, 4, none⟩ = some (.string r.d) := E7.out.cell 4; have yk : w7.cell? ⟨rb, 0, none⟩ = some (.pointer (some ⟨vb, 0, none⟩)) := (HT.out.below B7.out).row.cell 0; have K7 := hide (And.intro yk (And.intro y0 (And.intro y1 (And.intro y2 (And.intro y3 y4))))); have lw7 := E7.out.lt; have hw7 := B7.out.size; have ne5 : w7.heap.size ≠ rb := (by omega); have ne6 : rb ≠ w7.heap.size := (by omega); have ne7 : w7.heap.size ≠ w.heap.size := (by omega); have ne8 : w.heap.size ≠ w7.heap.size := (by omega); clear hb7)
      | (go_at_call 126; (with_reducible refine (HOO.out _ (BL.out.alloc BL.out.size (.cells #[.int .i64 0, .string ⟨#[]⟩, .string ⟨#[]⟩, .string ⟨#[]⟩, .string ⟨#[]⟩] 69)).drew).mono ?_); rintro y w7 ⟨rfl, hb7⟩; have B7 := hide ((BL.out.alloc BL.out.size (.cells #[.int .i64 0, .string ⟨#[]⟩, .string ⟨#[]⟩, .string ⟨#[]⟩, .string ⟨#[]⟩] 69)).drew.trans (hb7.mono (BL.out.alloc BL.out.size (.cells #[.int .i64 0, .string ⟨#[]⟩, .string ⟨#[]⟩, .string ⟨#[]⟩, .string ⟨#[]⟩] 69)).drew.size)); have X7 := hide ((HasR.new W1 69 #[.int .i64 0, .string ⟨#[]⟩, .string ⟨#[]⟩, .string ⟨#[]⟩, .string ⟨#[]⟩]).drew.below hb7 (HasR.new W1 69 _).drew.lt); have E7 := hide ((E0.out.alloc (.cells #[.int .i64 0, .string ⟨#[]⟩, .string ⟨#[]⟩, .string ⟨#[]⟩, .string ⟨#[]⟩] 69)).drew.below hb7 (E0.out.alloc (.cells #[.int .i64 0, .string ⟨#[]⟩, .string ⟨#[]⟩, .string ⟨#[]⟩, .string ⟨#[]⟩] 69)).drew.lt); have y0 : w7.cell? ⟨w.heap.size, 0, none⟩ = some (.int .i64 (r.q : Int)) := E7.out.cell 0; have y1 : w7.cell? ⟨w.heap.size, 1, none⟩ = some (.string r.s) := E7.out.cell 1; have y2 : w7.cell? ⟨w.heap.size, 2, none⟩ = some (.int .i64 (r.g : Int)) := E7.out.cell 2; have y3 : w7.cell? ⟨w.heap.size, 3, none⟩ = some (.string r.p) := E7.out.cell 3; have y4 : w7.cell? ⟨w.heap.size, 4, none⟩ = some (.string r.d) := E7.out.cell 4; have yk : w7.cell? ⟨rb, 0, none⟩ = some (.pointer (some ⟨vb, 0, none⟩)) := (HT.out.below B7.out).row.cell 0; have K7 := hide (And.intro yk (And.intro y0 (And.intro y1 (And.intro y2 (And.intro y3 y4))))); have z0 : w7.cell? ⟨W1.heap.size, 0, none⟩ = some (.int .i64 0) := X7.out.cell 0; have z1 : w7.cell? ⟨W1.heap.size, 1, none⟩ = some (.string ⟨#[]⟩) := X7.out.cell 1; have z2 : w7.cell? ⟨W1.heap.size, 2, none⟩ = some (.string ⟨#[]⟩) := X7.out.cell 2; have z3 : w7.cell? ⟨W1.heap.size, 3, none⟩ = some (.string ⟨#[]⟩) := X7.out.cell 3; have z4 : w7.cell? ⟨W1.heap.size, 4, none⟩ = some (.string ⟨#[]⟩) := X7.out.cell 4; have o0 : w7.frozen? ⟨W1.heap.size, 0, none⟩ = false := X7.out.free 0; have o1 : w7.frozen? ⟨W1.heap.size, 1, none⟩ = false := X7.out.free 1; have o2 : w7.frozen? ⟨W1.heap.size, 2, none⟩ = false := X7.out.free 2; have o3 : w7.frozen? ⟨W1.heap.size, 3, none⟩ = false := X7.out.free 3; have o4 : w7.frozen? ⟨W1.heap.size, 4, none⟩ = false := X7.out.free 4; clear hb7))
    all_goals
      go_wp2
      go_meet
      first
        | exact ⟨W1.heap.size, rfl, rfl, by omega, HasR.five X7.out _ _ _ _ _, B7.out.trans ((stir5 w7 W1.heap.size _ _ _ _ _).below B7.out.size (fun j hj => by simp at hj; omega))⟩
        | exact ⟨w7.heap.size, rfl, rfl, hw7, HasR.new w7 69 _, B7.out.alloc B7.out.size _⟩
  case rest =>
    clear e0 e1 e2 e3 e4 k0 ne1 ne2 ne3 ne4 E0 BL lw HOO
    obtain ⟨be, rfl, hs6, hbe, hXE, hB⟩ := hcut
    have XE := hide hXE
    have BB := hide hB
    have TB := hide (HT.out.below hB)
    have x0 : wc.cell? ⟨be, 0, none⟩ = some (.int .i64 x.k) := XE.out.cell 0
    have x1 : wc.cell? ⟨be, 1, none⟩ = some (.string x.s) := XE.out.cell 1
    have x2 : wc.cell? ⟨be, 2, none⟩ = some (.string x.t) := XE.out.cell 2
    have x3 : wc.cell? ⟨be, 3, none⟩ = some (.string x.r) := XE.out.cell 3
    have x4 : wc.cell? ⟨be, 4, none⟩ = some (.string x.v) := XE.out.cell 4
    clear hXE hB
    rcases hE with ⟨rfl, rfl⟩ | ⟨rfl, rfl, hrx, hbx⟩
    · subst hs6
      have I8 := hide (is8 wc)
      have l3 : wc.cell? ⟨rb, 3, none⟩ = some (.int .i64 (lost : Int)) := TB.out.row.cell 3
      have f3 : wc.frozen? ⟨rb, 3, none⟩ = false := TB.out.row.free 3
      go_wp2_with (go_at_call 127; (with_reducible refine I8.out.mono ?_); rintro y w8 ⟨rfl, hw⟩; obtain rfl := hw.symm)
      go_ret
      have hset := TB.out.row.set 3 (.int .i64 ((lost : Int) + 1))
      have hst : Stirred [rb] wc (wc.setCell ⟨rb, 3, none⟩ (.int .i64 ((lost : Int) + 1))) := Stirred.setCell wc ⟨rb, 3, none⟩ _
      refine ⟨rfl, mt, ⟨?_, TB.out.none, fun m e => ?_⟩, .inl rfl, (Stirred.of_below BB.out (rb :: mt.toList)).andThen hst (fun j hj => .inl (by simp at hj; simp [hj]))⟩
      · have e1 : (((lost + 1 : Nat)) : Int) = (lost : Int) + 1 := by omega
        first
          | (rw [if_pos rfl, e1]; exact hset)
          | (rw [e1]; exact hset)
      · obtain ⟨D, o, i⟩ := TB.out.held m e
        refine ⟨D, (ownsMap_turned o hst (by simp; exact TB.out.apart e)).mono (by omega), ?_⟩
        first
          | exact i
          | (rw [if_pos rfl]; exact i)
    · subst hs6
      have I8 := hide (isNil8 wc)
      have hne := nilNe
      have eo : errOf x = .nilIface := by unfold errOf; rw [if_pos hrx]
      have AP0 := apply_any rb 133 #[.pointer (some ⟨vb, 0, none⟩), .int .i64 (read : Int), .string mark, .int .i64 (lost : Int)] mt x nt τ wc.drew hbx hn (TB.out.below (Below.refl _ wc).drew)
      rw [eo, show (#[.pointer (some ⟨vb, 0, none⟩), .int .i64 (read : Int), .string mark, .int .i64 (lost : Int)] : Array Value).size = 4 from rfl] at AP0
      have AP := hide AP0
      clear AP0 eo
      have DX := hide (XE.out.drew)
      have nin : be ∉ rb :: mt.toList := fun hm => by
        rcases List.mem_cons.1 hm with e | e
        · omega
        · obtain ⟨D, o, _⟩ := HT.out.held be (by simpa using e)
          have := o.lt
          omega
      go_upto_region 7 with (go_at_call 127; (with_reducible refine I8.out.mono ?_); rintro y w8 ⟨rfl, hw⟩; obtain rfl := hw.symm)
      go_region_held3 (fun wx => wx.cell? ⟨be, 0, none⟩ = some (.int .i64 x.k) ∧ wx.cell? ⟨be, 1, none⟩ = some (.string x.s) ∧ wx.cell? ⟨be, 2, none⟩ = some (.string x.t) ∧ wx.cell? ⟨be, 3, none⟩ = some (.string x.r) ∧ wx.cell? ⟨be, 4, none⟩ = some (.string x.v)) (first | (with_reducible exact K5.out) | go_keep)
        ((go_at_call 79; (with_reducible refine AP.out.mono ?_); rintro y w9 ⟨rfl, mt', hu⟩; have HU := hide hu; have H5 := hide (DX.out.turned hu.2.2 nin); have k0 : w9.cell? ⟨be, 0, none⟩ = some (.int .i64 x.k) := H5.out.cell 0; have k1 : w9.cell? ⟨be, 1, none⟩ = some (.string x.s) := H5.out.cell 1; have k2 : w9.cell? ⟨be, 2, none⟩ = some (.string x.t) := H5.out.cell 2; have k3 : w9.cell? ⟨be, 3, none⟩ = some (.string x.r) := H5.out.cell 3; have k4 : w9.cell? ⟨be, 4, none⟩ = some (.string x.v) := H5.out.cell 4; have K5 := hide (And.intro k0 (And.intro k1 (And.intro k2 (And.intro k3 k4)))); clear hu))
      go_wp2
      go_ret
      have hsz := BB.out.size
      refine ⟨rfl, mt', ?_, ?_, ((Stirred.of_below BB.out.drew (rb :: mt.toList))).andThen HU.out.2.2 (fun j hj => .inl hj)⟩
      · first
          | exact HU.out.1
          | (rw [if_neg (by decide), if_neg (by decide)]; exact HU.out.1)
      · rcases HU.out.2.1 with e | ⟨e, m, e2, hl2⟩
        · exact .inl e
        · exact .inr ⟨e, m, e2, by simp at hl2; omega⟩
set_option maxRecDepth 100000 in
set_option maxHeartbeats 4000000 in
/-- The next record is read. -/
theorem read_next (w : World) (rb vb read lost : Nat) (mark : ByteArray) (mt : Option Nat) (nt : Nat) (τ : Tab) (r : Rec) (x : Ev) (er : Value) (lo : Bool) (h : TabV w rb 133 #[.pointer (some ⟨vb, 0, none⟩), .int .i64 (read : Int), .string mark, .int .i64 (lost : Int)] mt nt τ) (hO : ∀ wx, Below w.heap.size w wx → Calls Tryz.prog 126 #[.pointer (some ⟨vb, 0, none⟩), .agg #[.int .i64 (r.q : Int), .string r.s, .int .i64 (r.g : Int), .string r.p, .string r.d]] wx fun y w' => y = .returned (.tuple #[.agg #[.int .i64 x.k, .string x.s, .string x.t, .string x.r, .string x.v], er]) ∧ Below wx.heap.size wx w')
    (hE : (lo = true ∧ er = .iface 25 (.int .i64 8)) ∨ (lo = false ∧ er = .nilIface ∧ rightB x = true ∧ Brief x)) (hl : lost < 1000) (hn : nt < 1000) (hr : read < 1000) (hq : r.q = read + 1) (hp : r.p = markAt read mark) (hf : Fit r) (hK : TabK w) (h3 : ∀ j ∈ rb :: mt.toList, 3 < j) :
    Calls Tryz.prog 48 #[.pointer (some ⟨rb, 0, none⟩), .agg #[.int .i64 (r.q : Int), .string r.s, .int .i64 (r.g : Int), .string r.p, .string r.d]] w fun y w' => y = .returned .nilIface ∧ Took w w' rb vb (read + 1) (if lo = true then lost + 1 else lost) (markR r) mt nt (if lo = true then τ else app x τ) := by
  have bel : Below w.heap.size w (w.alloc (.cells #[.int .i64 (r.q : Int), .string r.s, .int .i64 (r.g : Int), .string r.p, .string r.d] 74)) := (Below.refl _ w).alloc (Nat.le_refl _) _
  have E0 := hide (HasR.new w 74 #[.int .i64 (r.q : Int), .string r.s, .int .i64 (r.g : Int), .string r.p, .string r.d])
  have HT := hide h
  have lr := h.row.lt
  have AT := hide (at_any _ rb vb read lost mark mt nt τ (h.below bel))
  have TC := hide (fun wx (hb : Below w.heap.size w wx) => take_cut wx rb vb read lost mark mt nt τ r x er (h.below hb) (fun wy hy => hO wy (hb.trans (hy.mono hb.size))) lo hE hl hn)
  have MK := hide (fun wx (hk : TabK wx) => markRec_any r wx hf hk)
  have TKK := hide (fun wx (t : Stirred (rb :: mt.toList) w wx) => (show TabK wx from fun i hi => (t.cell (p := ⟨3, i, none⟩) hK.lt (fun hm => by have := h3 3 hm; omega)).trans (hK i hi)))
  have BL := hide bel
  have hq1 := ptrR_nil rb
  have hne := nilNe
  have hqz : (r.q : Int) = (read : Int) + 1 := by omega
  have d1 : decide ((1 : Int) ≤ (read : Int) + 1) = true := by simp; omega
  have d2 : decide ((read : Int) + 1 ≤ (read : Int)) = false := by simp; omega
  have d3 : decide ((read : Int) + 1 < 1) = false := by simp; omega
  have hwr : IntKind.i64.wrap ((read : Int) + 1 - 1) = (read : Int) := by rw [IntKind.wrap_i64]; omega
  have n1 : ¬ (read : Int) + 1 ≤ (read : Int) := by omega
  have n2 : ¬ (read : Int) + 1 < 1 := by omega
  have n3 : (1 : Int) ≤ (read : Int) + 1 := by omega
  have hsx : ((markAt read mark).toList == (markAt read mark).toList) = true := by simp
  have NIN : Hid (w.heap.size ∉ rb :: mt.toList) := fun hm => by
    rcases List.mem_cons.1 hm with e | e
    · omega
    · obtain ⟨D, o, _⟩ := HT.out.held w.heap.size (by simpa using e)
      have := o.lt
      omega
  generalize (if lo = true then lost + 1 else lost) = lost2 at TC ⊢
  generalize (if lo = true then τ else app x τ) = τ2 at TC ⊢
  rw [hqz, hp] at E0 TC MK BL AT ⊢
  generalize markAt read mark = ma at E0 TC MK BL AT hsx ⊢
  clear h hO bel hE hK h3 hp
  go_enter Tryz.func48, Tryz.ntmps48
  go_upto_region 13 with (first
    | (go_at_call 50; (with_reducible refine AT.out.mono ?_); rintro y w1 ⟨rfl, hb1⟩
       have B1 := hide (BL.out.trans (hb1.mono BL.out.size))
       have E1 := hide (E0.out.below hb1 E0.out.lt)
       have e0 : w1.cell? ⟨w.heap.size, 0, none⟩ = some (.int .i64 ((read : Int) + 1)) := E1.out.cell 0
       have e1 : w1.cell? ⟨w.heap.size, 1, none⟩ = some (.string r.s) := E1.out.cell 1
       have e2 : w1.cell? ⟨w.heap.size, 2, none⟩ = some (.int .i64 (r.g : Int)) := E1.out.cell 2
       have e3 : w1.cell? ⟨w.heap.size, 3, none⟩ = some (.string ma) := E1.out.cell 3
       have e4 : w1.cell? ⟨w.heap.size, 4, none⟩ = some (.string r.d) := E1.out.cell 4
       clear hb1)
    | (go_at_call 84; (with_reducible refine (TC.out _ B1.out).mono ?_); rintro y w2 ⟨rfl, mt', hT2, hm2, hs2⟩
       have T2 := hide hT2
       have M2 := hide hm2
       have S2 := hide ((Stirred.of_below B1.out (rb :: mt.toList)).andThen hs2 (fun j hj => .inl hj))
       have E2 := hide (E1.out.turned hs2 NIN.out)
       clear hT2 hm2 hs2))
  clear e0 e1 e2 e3 e4
  have e0 : w2.cell? ⟨w.heap.size, 0, none⟩ = some (.int .i64 ((read : Int) + 1)) := E2.out.cell 0
  have e1 : w2.cell? ⟨w.heap.size, 1, none⟩ = some (.string r.s) := E2.out.cell 1
  have e2 : w2.cell? ⟨w.heap.size, 2, none⟩ = some (.int .i64 (r.g : Int)) := E2.out.cell 2
  have e3 : w2.cell? ⟨w.heap.size, 3, none⟩ = some (.string ma) := E2.out.cell 3
  have e4 : w2.cell? ⟨w.heap.size, 4, none⟩ = some (.string r.d) := E2.out.cell 4
  have MD := hide (MK.out _ (TKK.out _ S2.out.drew))
  have lr2 := T2.out.row.lt
  go_region_with ((go_at_call 58; (with_reducible refine MD.out.mono ?_); rintro y w3 ⟨rfl, hb3⟩; have T3 := hide ((T2.out.below (Below.refl _ w2).drew).below hb3); have S3 := hide (S2.out.drew.then_below hb3); have E3 := hide (E2.out.drew.below hb3 E2.out.drew.lt); have r1 : w3.cell? ⟨rb, 1, none⟩ = some (.int .i64 (read : Int)) := T3.out.row.cell 1; have q1 : w3.frozen? ⟨rb, 1, none⟩ = false := T3.out.row.free 1; have r2 : w3.cell? ⟨rb, 2, none⟩ = some (.string mark) := T3.out.row.cell 2; have q2 : w3.frozen? ⟨rb, 2, none⟩ = false := T3.out.row.free 2; have y0 : w3.cell? ⟨w.heap.size, 0, none⟩ = some (.int .i64 ((read : Int) + 1)) := E3.out.cell 0; clear hb3))
  all_goals
    go_wp2
    go_ret
    have s1 : Stirred [rb] w3 (w3.setCell ⟨rb, 1, none⟩ (.int .i64 ((read : Int) + 1))) := Stirred.setCell w3 ⟨rb, 1, none⟩ _
    have s2 : Stirred [rb] (w3.setCell ⟨rb, 1, none⟩ (.int .i64 ((read : Int) + 1))) ((w3.setCell ⟨rb, 1, none⟩ (.int .i64 ((read : Int) + 1))).setCell ⟨rb, 2, none⟩ (.string (markR r))) := Stirred.setCell _ ⟨rb, 2, none⟩ _
    have s12 := s1.andThen s2 (fun j hj => .inl hj)
    have hset := (T3.out.row.set 1 (.int .i64 ((read : Int) + 1))).set 2 (.string (markR r))
    have e1 : (((read + 1 : Nat)) : Int) = (read : Int) + 1 := by omega
    refine ⟨rfl, mt', ⟨?_, T3.out.none, fun m e => ?_⟩, M2.out.imp id (fun ⟨a, m, b, c⟩ => ⟨a, m, b, by have := B1.out.size; omega⟩), S3.out.andThen s12 (fun j hj => .inl (by simp at hj; simp [hj]))⟩
    · rw [e1]
      exact hset
    · obtain ⟨D, o, i⟩ := T3.out.held m e
      exact ⟨D, ownsMap_turned o s12 (by simp; exact T3.out.apart e), i⟩
end Go.Proofs.YtdjpghgnjcmdnaaGreatDoor

/- The rows of those who are not forgotten, as mathematics: what a late reader has, and who tells it on. -/
namespace Go.Proofs.YtdjpghgnjcmdnaaGreatDoor
open Go.RowKit Go.Sort
/-- The rows of those alone that are not forgotten. -/
def keepT (l : List Ev) (τ : Tab) : Tab := fun t r =>
  match τ t r with
  | some p => if lostB l p.1 = true then none else some p
  | none => none
theorem keepT_none {l : List Ev} {τ : Tab} {t r : ByteArray} (h : τ t r = none) : keepT l τ t r = none := by unfold keepT; rw [h]
theorem keepT_some {l : List Ev} {τ : Tab} {t r : ByteArray} {p : ByteArray × ByteArray} (h : τ t r = some p) : keepT l τ t r = if lostB l p.1 = true then none else some p := by unfold keepT; rw [h]
theorem keepT_nil (τ : Tab) : keepT [] τ = τ := by
  funext t r
  cases h : τ t r with
  | none => exact keepT_none h
  | some p => rw [keepT_some h]; rfl
theorem keepT_tab0 (l : List Ev) : keepT l tab0 = tab0 := rfl
theorem lostB_cons (e : Ev) (l : List Ev) (s : ByteArray) : lostB (e :: l) s = ((decide (e.k = 3) && decide (e.s = s)) || lostB l s) := rfl
/-- What a late reader has behind an event that was done. -/
theorem late_step {e : Ev} {l : List Ev} {τ : Tab} (hr : rightB e = true) (h0 : refuseB τ e = 0) :
    keepT l (app e τ) = if e.k ≠ 3 ∧ lostB l e.s = true then keepT (e :: l) τ else app e (keepT (e :: l) τ) := by
  funext t r
  rw [app_right hr, app_right hr]
  rcases right_kind hr with hk | hk | hk
  · have h3 : e.k ≠ 3 := by omega
    have hlc : ∀ s, lostB (e :: l) s = lostB l s := fun s => by rw [lostB_cons]; simp [h3]
    have hown : ∀ p, τ e.t e.r = some p → p.1 = e.s := fun p hp => by
      unfold refuseB at h0
      rw [hp] at h0
      simp only [hk, ownB] at h0
      by_cases hq : p.1 = e.s
      · exact hq
      · simp [hq] at h0
    by_cases hh : hereB t r e = true
    · obtain ⟨rfl, rfl⟩ := hereB_iff.1 hh
      have e1 : act e τ e.t e.r = some (e.s, e.v) := by rw [act_put hk, if_pos hh]
      rw [keepT_some e1]
      by_cases hl : lostB l e.s = true
      · rw [if_pos hl, if_pos ⟨h3, hl⟩]
        cases hx : τ e.t e.r with
        | none => exact (keepT_none hx).symm
        | some p => rw [keepT_some hx, hlc, hown p hx, if_pos hl]
      · rw [if_neg hl, if_neg (fun x => hl x.2), act_put hk, if_pos hh]
    · have e1 : act e τ t r = τ t r := by rw [act_put hk, if_neg hh]
      have e2 : keepT l (act e τ) t r = keepT (e :: l) τ t r := by
        cases hx : τ t r with
        | none => rw [keepT_none (e1.trans hx), keepT_none hx]
        | some p => rw [keepT_some (e1.trans hx), keepT_some hx, hlc]
      rw [e2]
      split
      · rfl
      · rw [act_put hk, if_neg hh]
  · have h3 : e.k ≠ 3 := by omega
    have hlc : ∀ s, lostB (e :: l) s = lostB l s := fun s => by rw [lostB_cons]; simp [h3]
    by_cases hh : (hereB t r e && ownB (τ t r) e.s) = true
    · have e1 : act e τ t r = none := by rw [act_del hk, if_pos hh]
      rw [keepT_none e1]
      simp only [Bool.and_eq_true] at hh
      obtain ⟨h4, h5⟩ := hh
      cases hx : τ t r with
      | none => rw [hx] at h5; cases h5
      | some p =>
        rw [hx] at h5
        have h6 : p.1 = e.s := by simpa [ownB] using h5
        by_cases hl : lostB l e.s = true
        · rw [if_pos ⟨h3, hl⟩, keepT_some hx, hlc, h6, if_pos hl]
        · rw [if_neg (fun x => hl x.2), act_del hk]
          have h7 : keepT (e :: l) τ t r = some p := by rw [keepT_some hx, hlc, h6, if_neg hl]
          rw [h7, h4, h5]
          rfl
    · have e1 : act e τ t r = τ t r := by rw [act_del hk, if_neg hh]
      have e2 : keepT l (act e τ) t r = keepT (e :: l) τ t r := by
        cases hx : τ t r with
        | none => rw [keepT_none (e1.trans hx), keepT_none hx]
        | some p => rw [keepT_some (e1.trans hx), keepT_some hx, hlc]
      rw [e2]
      split
      · rfl
      · rw [act_del hk]
        split
        · rename_i h6
          simp only [Bool.and_eq_true] at h6
          cases hx : τ t r with
          | none => rw [keepT_none hx]
          | some p =>
            have h7 := h6.2
            rw [keepT_some hx] at h7
            split at h7
            · cases h7
            · refine absurd ?_ hh
              rw [hx, h6.1, h7]; rfl
        · rfl
  · rw [if_neg (fun x => x.1 hk), act_gone (by omega) (by omega)]
    cases hx : τ t r with
    | none =>
      have e1 : act e τ t r = none := by rw [act_gone (by omega) (by omega), hx]; rfl
      rw [keepT_none e1, keepT_none hx]; rfl
    | some p =>
      by_cases hp : p.1 = e.s
      · have e1 : act e τ t r = none := by rw [act_gone (by omega) (by omega), hx]; simp [ownB, hp]
        have e2 : keepT (e :: l) τ t r = none := by rw [keepT_some hx, lostB_cons]; simp [hk, hp]
        rw [keepT_none e1, e2]; rfl
      · have e1 : act e τ t r = some p := by rw [act_gone (by omega) (by omega), hx]; simp [ownB, hp]
        have hq : ¬ e.s = p.1 := fun x => hp x.symm
        have e2 : keepT (e :: l) τ t r = if lostB l p.1 = true then none else some p := by rw [keepT_some hx, lostB_cons]; simp [hk, hq]
        rw [keepT_some e1, e2]
        by_cases hl : lostB l p.1 = true
        · simp [hl, ownB]
        · simp [hl, ownB, hp]
/-- Who is not forgotten may do it again where those who are never were. -/
theorem late_free {e : Ev} {l : List Ev} {τ : Tab} (hr : rightB e = true) (h0 : refuseB τ e = 0) (h3 : e.k ≠ 3) (hl : lostB l e.s = false) : refuseB (keepT (e :: l) τ) e = 0 := by
  have hlc : ∀ s, lostB (e :: l) s = lostB l s := fun s => by rw [lostB_cons]; simp [h3]
  unfold refuseB at h0 ⊢
  cases hx : τ e.t e.r with
  | none =>
    rw [keepT_none hx]
    rw [hx] at h0
    exact h0
  | some p =>
    rw [hx] at h0
    rw [keepT_some hx, hlc]
    by_cases hp : p.1 = e.s
    · rw [hp, hl]
      exact h0
    · rcases right_kind hr with hk | hk | hk
      · simp [hk, ownB, hp] at h0
      · simp [hk, ownB, hp] at h0
      · exact absurd hk h3
/-- Of one that is forgotten there is nothing to forget. -/
theorem late_gone {e : Ev} {l : List Ev} {τ : Tab} (hr : rightB e = true) (hk : e.k = 3) : app e (keepT (e :: l) τ) = keepT (e :: l) τ := by
  funext t r
  rw [app_right hr, act_gone (by omega) (by omega)]
  split
  · rename_i h
    cases hx : τ t r with
    | none => rw [keepT_none hx]
    | some p =>
      rw [keepT_some hx] at h ⊢
      by_cases hl : lostB (e :: l) p.1 = true
      · rw [if_pos hl]
      · rw [if_neg hl] at h
        have h6 : p.1 = e.s := by simpa [ownB] using h
        refine absurd ?_ hl
        rw [lostB_cons, h6]
        simp [hk]
  · rfl
end Go.Proofs.YtdjpghgnjcmdnaaGreatDoor

/- What was done may be done again where those who are forgotten never were: as mathematics. -/
namespace Go.Proofs.YtdjpghgnjcmdnaaGreatDoor
open Go.RowKit Go.Sort
set_option linter.unusedSectionVars false
variable [Inhabited Cl] [Inhabited Ev]
theorem hist_sub {sec : ByteArray} : ∀ (es : List Ev) (s : Hst), ∀ e ∈ (hist sec es s).ok, e ∈ s.ok ∨ e ∈ es
  | [], s, e, he => .inl he
  | f :: es, s, e, he => by
    rcases hist_sub (sec := sec) es (hstep sec s f) e he with h | h
    · unfold hstep at h
      split at h
      · rcases List.mem_append.1 h with h | h
        · exact .inl h
        · exact .inr (by simp at h; simp [h])
      · exact .inl h
    · exact .inr (by simp [h])
/-- Each event that was done might be, and was not refused. -/
theorem Did.free {sec : ByteArray} {s : Hst} (h : Did sec s) : ∀ k, k < s.ok.length → rightB (s.ok.getD k ev0) = true ∧ refuseB (runs (s.ok.take k) tab0) (s.ok.getD k ev0) = 0 := by
  refine h.ind (P := fun s => ∀ k, k < s.ok.length → rightB (s.ok.getD k ev0) = true ∧ refuseB (runs (s.ok.take k) tab0) (s.ok.getD k ev0) = 0) (fun k hk => by simp [hst0] at hk) ?_
  · intro s e hd ih hdo k hk
    simp only at hk ⊢
    by_cases hk2 : k < s.ok.length
    · have a1 : (s.ok ++ [e]).getD k ev0 = s.ok.getD k ev0 := by simp [List.getD_eq_getElem?_getD, List.getElem?_append_left hk2]
      rw [a1, List.take_append_of_le_length (by omega)]
      exact ih k hk2
    · have hk4 : k = s.ok.length := by simp at hk; omega
      subst hk4
      have a1 : (s.ok ++ [e]).getD s.ok.length ev0 = e := by simp [List.getD_eq_getElem?_getD]
      have a4 : (s.ok ++ [e]).take s.ok.length = s.ok := by simp
      rw [a1, a4, ← hd.tau]
      exact does_parts hdo
theorem drop_cons {es : List Ev} {k : Nat} (h : k < es.length) : es.drop k = es.getD k ev0 :: es.drop (k + 1) := by
  rw [List.drop_eq_getElem_cons h, List.getD_eq_getElem?_getD, List.getElem?_eq_getElem h]
  rfl
theorem take_snoc {es : List Ev} {k : Nat} (h : k < es.length) : es.take (k + 1) = es.take k ++ [es.getD k ev0] := by
  rw [List.take_succ_eq_append_getElem h, List.getD_eq_getElem?_getD, List.getElem?_eq_getElem h]
  rfl
/-- The rows behind k events of those who are not forgotten by the others. -/
def lateT (ok : List Ev) (k : Nat) : Tab := keepT (ok.drop k) (runs (ok.take k) tab0)
theorem lateT_start (ok : List Ev) : lateT ok 0 = tab0 := by
  unfold lateT
  rw [List.take_zero]
  exact keepT_tab0 _
theorem lateT_end (ok : List Ev) : lateT ok ok.length = runs ok tab0 := by
  unfold lateT
  rw [List.drop_length, List.take_length, keepT_nil]
theorem lateT_step {sec : ByteArray} {s : Hst} (h : Did sec s) {k : Nat} (hk : k < s.ok.length) : lateT s.ok (k + 1) = if (s.ok.getD k ev0).k ≠ 3 ∧ lostB (s.ok.drop (k + 1)) (s.ok.getD k ev0).s = true then lateT s.ok k else app (s.ok.getD k ev0) (lateT s.ok k) := by
  obtain ⟨h1, h2⟩ := h.free k hk
  unfold lateT
  rw [take_snoc hk, runs_snoc, late_step h1 h2, ← drop_cons hk]
theorem lateT_gone {sec : ByteArray} {s : Hst} (h : Did sec s) {k : Nat} (hk : k < s.ok.length) (h3 : (s.ok.getD k ev0).k = 3) : lateT s.ok (k + 1) = lateT s.ok k := by
  rw [lateT_step h hk, if_neg (fun x => x.1 h3)]
  unfold lateT
  rw [drop_cons hk]
  exact late_gone (h.free k hk).1 h3
theorem lateT_does {sec : ByteArray} {s : Hst} (h : Did sec s) {k : Nat} (hk : k < s.ok.length) (h3 : (s.ok.getD k ev0).k ≠ 3) (hl : lostB (s.ok.drop (k + 1)) (s.ok.getD k ev0).s = false) (σ : Kept) : doesB σ (lateT s.ok k) (s.ok.getD k ev0) = true := by
  obtain ⟨h1, h2⟩ := h.free k hk
  have h4 : refuseB (lateT s.ok k) (s.ok.getD k ev0) = 0 := by
    unfold lateT
    rw [drop_cons hk]
    exact late_free h1 h2 h3 hl
  generalize s.ok.getD k ev0 = e at h1 h3 h4 ⊢
  unfold doesB
  rw [h1, h4]
  simp [h3]
end Go.Proofs.YtdjpghgnjcmdnaaGreatDoor

/- The laws' own done: a source to which events happened, those that were done, and its rows behind each. -/
namespace Go.Proofs.YtdjpghgnjcmdnaaGreatDoor
open Go.RowKit Go.Sort
attribute [local go_sem ↓] Go.wp_at_zero Go.wp_at_succ
set_option linter.unusedSectionVars false
variable [Inhabited Cl] [Inhabited Ev]
theorem hist_few {sec : ByteArray} : ∀ (es : List Ev) (s : Hst), (hist sec es s).ok.length ≤ s.ok.length + es.length
  | [], s => by show s.ok.length ≤ s.ok.length + 0; omega
  | e :: es, s => by
    have h := hist_few (sec := sec) es (hstep sec s e)
    have h2 : (hstep sec s e).ok.length ≤ s.ok.length + 1 := by
      unfold hstep
      split
      · simp
      · omega
    show (hist sec es (hstep sec s e)).ok.length ≤ _
    simp only [List.length_cons]
    omega
theorem getD_eq! {es : List Ev} {k : Nat} (h : k < es.length) : es.getD k ev0 = es[k]! := by
  rw [getElem!_pos es k h, List.getD_eq_getElem?_getD, List.getElem?_eq_getElem h]
  rfl
theorem Dn.start {w w1 : World} (hS : Src w.heap.size w1 (w.heap.size + 2) (w.heap.size + 1) w.heap.size none none (.slice none 0 0) 0 0 secB kept0 tab0 []) (hb : w.heap.size ≤ w1.heap.size) : Dn w.heap.size (w1.alloc (.cells #[.slice none 0 0] 30)) kept0 tab0 [] 0 [] (.slice none 0 0) (.slice (some ⟨w1.heap.size, 0, none⟩) 1 1) [.slice none 0 0] := by
  refine ⟨⟨_, _, _, hS.still ((Below.refl _ w1).alloc (Nat.le_refl _) _), (fun u hu g hg => by simp at hu; subst hu; cases hg)⟩, World.ownsRow_nil _ _ _ _, ?_, (fun u hu g hg => by simp at hu; subst hu; cases hg), fun j hj => ?_⟩
  · exact World.ownsRow_lit w1 #[.slice none 0 0] 1 hb (by unfold maxLen; omega) rfl
  · have : j = 0 := by simpa using hj
    subst this
    exact ⟨[], inOrd0, Nat.zero_le _, .inl ⟨rfl, rfl⟩⟩
end Go.Proofs.YtdjpghgnjcmdnaaGreatDoor
