/- Texts of this proof, one behind the other. -/
import Derived.Stop.Asserts
import Derived.Deep.DeepCutAuto
import Derived.Test.YtkbaalenbpgheaaGreatDoorPart35
/- What was done may be done again where those who are forgotten never were: as mathematics. -/
namespace Go.Proofs.YtkbaalenbpgheaaGreatDoor
open Go.RowKit Go.Sort
set_option linter.unusedSectionVars false
variable [Inhabited Cl] [Inhabited Ev]
theorem hist_sub {sec : ByteArray} : ∀ (es : List Ev) (s : Hst), ∀ e ∈ (hist sec es s).ok, e ∈ s.ok ∨ e ∈ es
  | [], s, e, he => .inl he
  | f :: es, s, e, he => by
    rcases hist_sub (sec := sec) es (hstep sec s f) e he with h | h
    · unfold hstep at h
      split at h
      · rcases List.mem_append.1 h with h | h
        · exact .inl h
        · exact .inr (by simp at h; simp [h])
      · exact .inl h
    · exact .inr (by simp [h])
/-- Each event that was done might be, and was not refused. -/
theorem Did.free {sec : ByteArray} {s : Hst} (h : Did sec s) : ∀ k, k < s.ok.length → rightB (s.ok.getD k ev0) = true ∧ refuseB (runs (s.ok.take k) tab0) (s.ok.getD k ev0) = 0 := by
  refine h.ind (P := fun s => ∀ k, k < s.ok.length → rightB (s.ok.getD k ev0) = true ∧ refuseB (runs (s.ok.take k) tab0) (s.ok.getD k ev0) = 0) (fun k hk => by simp [hst0] at hk) ?_
  · intro s e hd ih hdo k hk
    simp only at hk ⊢
    by_cases hk2 : k < s.ok.length
    · have a1 : (s.ok ++ [e]).getD k ev0 = s.ok.getD k ev0 := by simp [List.getD_eq_getElem?_getD, List.getElem?_append_left hk2]
      rw [a1, List.take_append_of_le_length (by omega)]
      exact ih k hk2
    · have hk4 : k = s.ok.length := by simp at hk; omega
      subst hk4
      have a1 : (s.ok ++ [e]).getD s.ok.length ev0 = e := by simp [List.getD_eq_getElem?_getD]
      have a4 : (s.ok ++ [e]).take s.ok.length = s.ok := by simp
      rw [a1, a4, ← hd.tau]
      exact does_parts hdo
theorem drop_cons {es : List Ev} {k : Nat} (h : k < es.length) : es.drop k = es.getD k ev0 :: es.drop (k + 1) := by
  rw [List.drop_eq_getElem_cons h, List.getD_eq_getElem?_getD, List.getElem?_eq_getElem h]
  rfl
theorem take_snoc {es : List Ev} {k : Nat} (h : k < es.length) : es.take (k + 1) = es.take k ++ [es.getD k ev0] := by
  rw [List.take_succ_eq_append_getElem h, List.getD_eq_getElem?_getD, List.getElem?_eq_getElem h]
  rfl
/-- The rows behind k events of those who are not forgotten by the others. -/
def lateT (ok : List Ev) (k : Nat) : Tab := keepT (ok.drop k) (runs (ok.take k) tab0)
theorem lateT_start (ok : List Ev) : lateT ok 0 = tab0 := by
  unfold lateT
  rw [List.take_zero]
  exact keepT_tab0 _
theorem lateT_end (ok : List Ev) : lateT ok ok.length = runs ok tab0 := by
  unfold lateT
  rw [List.drop_length, List.take_length, keepT_nil]
theorem lateT_step {sec : ByteArray} {s : Hst} (h : Did sec s) {k : Nat} (hk : k < s.ok.length) : lateT s.ok (k + 1) = if (s.ok.getD k ev0).k ≠ 3 ∧ lostB (s.ok.drop (k + 1)) (s.ok.getD k ev0).s = true then lateT s.ok k else app (s.ok.getD k ev0) (lateT s.ok k) := by
  obtain ⟨h1, h2⟩ := h.free k hk
  unfold lateT
  rw [take_snoc hk, runs_snoc, late_step h1 h2, ← drop_cons hk]
theorem lateT_gone {sec : ByteArray} {s : Hst} (h : Did sec s) {k : Nat} (hk : k < s.ok.length) (h3 : (s.ok.getD k ev0).k = 3) : lateT s.ok (k + 1) = lateT s.ok k := by
  rw [lateT_step h hk, if_neg (fun x => x.1 h3)]
  unfold lateT
  rw [drop_cons hk]
  exact late_gone (h.free k hk).1 h3
theorem lateT_does {sec : ByteArray} {s : Hst} (h : Did sec s) {k : Nat} (hk : k < s.ok.length) (h3 : (s.ok.getD k ev0).k ≠ 3) (hl : lostB (s.ok.drop (k + 1)) (s.ok.getD k ev0).s = false) (σ : Kept) : doesB σ (lateT s.ok k) (s.ok.getD k ev0) = true := by
  obtain ⟨h1, h2⟩ := h.free k hk
  have h4 : refuseB (lateT s.ok k) (s.ok.getD k ev0) = 0 := by
    unfold lateT
    rw [drop_cons hk]
    exact late_free h1 h2 h3 hl
  generalize s.ok.getD k ev0 = e at h1 h3 h4 ⊢
  unfold doesB
  rw [h1, h4]
  simp [h3]
end Go.Proofs.YtkbaalenbpgheaaGreatDoor

/- Who follows a feed: the program's reader in memory, and what each of its calls does. -/
namespace Go.Proofs.YtkbaalenbpgheaaGreatDoor
open Go.RowKit Go.Sort
attribute [local go_sem ↓] Go.wp_at_zero Go.wp_at_succ
set_option linter.unusedSectionVars false
variable [Inhabited Cl] [Inhabited Ev]
theorem ptrR_nil (b : Nat) (w : World) : (binOp .eql 63 (.pointer (some ⟨b, 0, none⟩)) (.pointer none)).run Tryz.prog w = .ok (.bool false) w := by kernel_rfl
theorem Tryz.isTypeOf (n : Int) (w : World) : (callFunc 126 #[.iface 56 (.int .i64 n)]).run Tryz.prog w = .ok (.value (.iface 199 (.agg #[.pointer (some ⟨6, 56, none⟩)]))) w := by kernel_rfl
theorem Tryz.isComparable (w : World) : (callFunc 227 #[.agg #[.pointer (some ⟨6, 56, none⟩)]]).run Tryz.prog w = .ok (.value (.bool true)) w := by kernel_rfl
theorem Tryz.isMethodComparable (v : Value) (w : World) : (Go.method 410 199 v "Comparable").run Tryz.prog w = .ok (227, v) w := by kernel_rfl
theorem err88 (w : World) : (binOp .eql 32 (.iface 56 (.int .i64 8)) (.iface 56 (.int .i64 8))).run Tryz.prog w = .ok (.bool true) w := by kernel_rfl
theorem nil8 (w : World) : (binOp .eql 32 .nilIface (.iface 56 (.int .i64 8))).run Tryz.prog w = .ok (.bool false) w := by kernel_rfl
set_option maxRecDepth 100000 in
set_option maxHeartbeats 1000000 in
theorem isIn8 (w : World) : Calls Tryz.prog 130 #[.iface 56 (.int .i64 8), .iface 56 (.int .i64 8), .bool true] w fun e w' => e = .returned (.bool true) ∧ w' = w := by
  have he := err88
  go_enter Tryz.func130, Tryz.ntmps130
  go_wp2
  refine wp_loop_rounds 1 ?_
  rw [rounds_succ]
  go_wp2
  go_ret
  exact ⟨rfl, rfl⟩
set_option maxRecDepth 100000 in
set_option maxHeartbeats 1000000 in
/-- errors.Is: of none, and of nil. -/
theorem is8 (w : World) : Calls Tryz.prog 92 #[.iface 56 (.int .i64 8), .iface 56 (.int .i64 8)] w fun e w' => e = .returned (.bool true) ∧ w' = w := by
  have tT := Tryz.isTypeOf 8
  have cT := Tryz.isComparable
  have mR := Tryz.isMethodComparable
  have hq := errEq
  have I := hide (isIn8 w)
  go_enter Tryz.func92, Tryz.ntmps92
  go_wp2_with (go_at_call 130; (with_reducible refine I.out.mono ?_); rintro e w1 ⟨rfl, hw⟩; obtain rfl := hw.symm)
  go_ret
  exact ⟨rfl, rfl⟩
set_option maxRecDepth 100000 in
set_option maxHeartbeats 1000000 in
theorem isNil8 (w : World) : Calls Tryz.prog 92 #[.nilIface, .iface 56 (.int .i64 8)] w fun e w' => e = .returned (.bool false) ∧ w' = w := by
  have hq := nilEq
  have h8 := nil8
  go_enter Tryz.func92, Tryz.ntmps92
  go_wp2
  go_ret
  exact ⟨rfl, rfl⟩
set_option maxRecDepth 100000 in
set_option maxHeartbeats 400000 in
theorem rdNew_ok (vb : Nat) (w : World) :
    Calls Tryz.prog 58 #[.pointer (some ⟨vb, 0, none⟩)] w fun e w' => e = .returned (.tuple #[.pointer (some ⟨w.heap.size, 0, none⟩), .nilIface]) ∧ w' = w.alloc (.cells #[.pointer (some ⟨vb, 0, none⟩), .int .i64 0, .string ⟨#[]⟩, .int .i64 0, .map none] 115) := by
  have hq := ptrV_nil vb
  go_enter Tryz.func58, Tryz.ntmps58
  go_wp2
  go_ret2
  exact ⟨rfl, rfl⟩
/-- A reader's mark: of one that has read none it is None. -/
def markAt (read : Nat) (mark : ByteArray) : ByteArray := if read = 0 then noneB else mark
set_option maxRecDepth 100000 in
set_option maxHeartbeats 1000000 in
theorem at_any (w : World) (rb vb read lost : Nat) (mark : ByteArray) (mt : Option Nat) (nt : Nat) (τ : Tab) (h : TabV w rb 115 #[.pointer (some ⟨vb, 0, none⟩), .int .i64 (read : Int), .string mark, .int .i64 (lost : Int)] mt nt τ) :
    Calls Tryz.prog 35 #[.pointer (some ⟨rb, 0, none⟩)] w fun x w' => x = .returned (.tuple #[.int .i64 (read : Int), .string (markAt read mark)]) ∧ Below w.heap.size w w' := by
  have hq := ptrR_nil rb
  have c1 : w.cell? ⟨rb, 1, none⟩ = some (.int .i64 (read : Int)) := h.row.cell 1
  have c2 : w.cell? ⟨rb, 2, none⟩ = some (.string mark) := h.row.cell 2
  clear h
  unfold markAt
  by_cases h0 : read = 0
  · subst h0
    rw [if_pos rfl]
    unfold noneB
    go_enter Tryz.func35, Tryz.ntmps35
    go_wp2
    go_ret2
    exact ⟨rfl, Below.refl _ _⟩
  · rw [if_neg h0]
    have d1 : ((read : Int) == 0) = false := by simp; omega
    have d2 : ¬ (read : Int) = 0 := by omega
    go_enter Tryz.func35, Tryz.ntmps35
    go_wp2
    go_quiet (fail)
    go_wp2
    go_ret2
    exact ⟨rfl, below_dn (Below.refl _ _) _⟩
set_option maxRecDepth 100000 in
set_option maxHeartbeats 1000000 in
theorem lost_any (w : World) (rb vb read lost : Nat) (mark : ByteArray) (mt : Option Nat) (nt : Nat) (τ : Tab) (h : TabV w rb 115 #[.pointer (some ⟨vb, 0, none⟩), .int .i64 (read : Int), .string mark, .int .i64 (lost : Int)] mt nt τ) :
    Calls Tryz.prog 34 #[.pointer (some ⟨rb, 0, none⟩)] w fun x w' => x = .returned (.int .i64 (lost : Int)) ∧ w' = w := by
  have hq := ptrR_nil rb
  have c3 : w.cell? ⟨rb, 3, none⟩ = some (.int .i64 (lost : Int)) := h.row.cell 3
  clear h
  go_enter Tryz.func34, Tryz.ntmps34
  go_wp2
  go_ret
  exact ⟨rfl, rfl⟩
set_option maxRecDepth 100000 in
set_option maxHeartbeats 1000000 in
theorem rdCells_any (w : World) (rb vb read lost : Nat) (mark : ByteArray) (mt : Option Nat) (nt : Nat) (τ : Tab) (h : TabV w rb 115 #[.pointer (some ⟨vb, 0, none⟩), .int .i64 (read : Int), .string mark, .int .i64 (lost : Int)] mt nt τ) (hn : nt ≤ 1000) :
    Calls Tryz.prog 33 #[.pointer (some ⟨rb, 0, none⟩)] w fun x w' => ∃ u ds, x = .returned u ∧ InOrd τ ds ∧ ds.length ≤ nt ∧ RowC w' w.heap.size u ds ∧ Below w.heap.size w w' := by
  have hq := ptrR_nil rb
  have C0 := cells_any rb 115 #[.pointer (some ⟨vb, 0, none⟩), .int .i64 (read : Int), .string mark, .int .i64 (lost : Int)] mt nt τ w hn h
  rw [show (#[.pointer (some ⟨vb, 0, none⟩), .int .i64 (read : Int), .string mark, .int .i64 (lost : Int)] : Array Value).size = 4 from rfl] at C0
  have C := hide C0
  clear C0
  clear h
  go_enter Tryz.func33, Tryz.ntmps33
  go_wp2_with (go_at_call 46; (with_reducible refine C.out.mono ?_); rintro x w1 ⟨u, ds, rfl, ho, hl, hr, hb⟩)
  go_ret
  exact ⟨u, ds, rfl, ho, hl, hr, hb⟩
/-- What is read of a record, up to the read number and the mark. -/
def Took (w w' : World) (rb vb read lost : Nat) (mark : ByteArray) (mt : Option Nat) (nt : Nat) (τ' : Tab) : Prop :=
  ∃ mt', TabV w' rb 115 #[.pointer (some ⟨vb, 0, none⟩), .int .i64 (read : Int), .string mark, .int .i64 (lost : Int)] mt' (nt + 1) τ' ∧ (mt' = mt ∨ (mt = none ∧ ∃ m, mt' = some m ∧ w.heap.size ≤ m)) ∧ Stirred (rb :: mt.toList) w w'
set_option maxRecDepth 100000 in
set_option maxHeartbeats 4000000 in
theorem take_cut (w : World) (rb vb read lost : Nat) (mark : ByteArray) (mt : Option Nat) (nt : Nat) (τ : Tab) (r : Rec) (x : Ev) (er : Value) (h : TabV w rb 115 #[.pointer (some ⟨vb, 0, none⟩), .int .i64 (read : Int), .string mark, .int .i64 (lost : Int)] mt nt τ) (hO : ∀ wx, Below w.heap.size w wx → Calls Tryz.prog 22 #[.pointer (some ⟨vb, 0, none⟩), .agg #[.int .i64 (r.q : Int), .string r.s, .int .i64 (r.g : Int), .string r.p, .string r.d]] wx fun y w' => y = .returned (.tuple #[.agg #[.int .i64 x.k, .string x.s, .string x.t, .string x.r, .string x.v], er]) ∧ Below wx.heap.size wx w')
    (lo : Bool) (hE : (lo = true ∧ er = .iface 56 (.int .i64 8)) ∨ (lo = false ∧ er = .nilIface ∧ rightB x = true ∧ Brief x)) (hl : lost < 1000) (hn : nt < 1000) :
    Calls Tryz.prog 64 #[.pointer (some ⟨rb, 0, none⟩), .agg #[.int .i64 (r.q : Int), .string r.s, .int .i64 (r.g : Int), .string r.p, .string r.d]] w fun y w' => y = .returned .nilIface ∧ Took w w' rb vb read (if lo = true then lost + 1 else lost) mark mt nt (if lo = true then τ else app x τ) := by
  have bel : Below w.heap.size w (w.alloc (.cells #[.int .i64 (r.q : Int), .string r.s, .int .i64 (r.g : Int), .string r.p, .string r.d] 30)) := (Below.refl _ w).alloc (Nat.le_refl _) _
  have E0 := hide (HasR.new w 30 #[.int .i64 (r.q : Int), .string r.s, .int .i64 (r.g : Int), .string r.p, .string r.d])
  have HT := hide h
  have lr := h.row.lt
  have HOO := hide hO
  have BL := hide bel
  have c0 : w.cell? ⟨rb, 0, none⟩ = some (.pointer (some ⟨vb, 0, none⟩)) := h.row.cell 0
  clear h hO bel
  go_enter Tryz.func64, Tryz.ntmps64
  go_upto_region 1 with fail
  generalize w.alloc (.cells #[.int .i64 (r.q : Int), .string r.s, .int .i64 (r.g : Int), .string r.p, .string r.d] 30) = W1 at E0 BL ⊢
  have e0 : W1.cell? ⟨w.heap.size, 0, none⟩ = some (.int .i64 (r.q : Int)) := E0.out.cell 0
  have e1 : W1.cell? ⟨w.heap.size, 1, none⟩ = some (.string r.s) := E0.out.cell 1
  have e2 : W1.cell? ⟨w.heap.size, 2, none⟩ = some (.int .i64 (r.g : Int)) := E0.out.cell 2
  have e3 : W1.cell? ⟨w.heap.size, 3, none⟩ = some (.string r.p) := E0.out.cell 3
  have e4 : W1.cell? ⟨w.heap.size, 4, none⟩ = some (.string r.d) := E0.out.cell 4
  have k0 : W1.cell? ⟨rb, 0, none⟩ = some (.pointer (some ⟨vb, 0, none⟩)) := (BL.out.cell (p := ⟨rb, 0, none⟩) lr).trans c0
  have lw := E0.out.lt
  have ne1 : W1.heap.size ≠ rb := by omega
  have ne2 : rb ≠ W1.heap.size := by omega
  have ne3 : W1.heap.size ≠ w.heap.size := by omega
  have ne4 : w.heap.size ≠ W1.heap.size := by omega
  clear c0
  go_cut [5, 6] (fun s5 s6 wx => ∃ be : Nat, s5 = .pointer (some ⟨be, 0, none⟩) ∧ s6 = er ∧ w.heap.size ≤ be ∧ HasR wx be 36 #[.int .i64 x.k, .string x.s, .string x.t, .string x.r, .string x.v] ∧ Below w.heap.size w wx)
  case first =>
    go_region_held3 (fun wx => wx.cell? ⟨rb, 0, none⟩ = some (.pointer (some ⟨vb, 0, none⟩)) ∧ wx.cell? ⟨w.heap.size, 0, none⟩ = some (.int .i64 (r.q : Int)) ∧ wx.cell? ⟨w.heap.size, 1, none⟩ = some (.string r.s) ∧ wx.cell? ⟨w.heap.size, 2, none⟩ = some (.int .i64 (r.g : Int)) ∧ wx.cell? ⟨w.heap.size, 3, none⟩ = some (.string r.p) ∧ wx.cell? ⟨w.heap.size, 4, none⟩ = some (.string r.d)) (first | (with_reducible exact K7.out) | go_keep)
      (first
      | (go_at_call 22; (with_reducible refine (HOO.out _ BL.out.drew).mono ?_); rintro y w7 ⟨rfl, hb7⟩; have B7 := hide (BL.out.drew.trans (hb7.mono BL.out.drew.size)); have E7 := hide (E0.out.drew.below hb7 E0.out.drew.lt); have y0 : w7.cell? ⟨w.heap.size, 0, none⟩ = some (.int .i64 (r.q : Int)) := E7.out.cell 0; have y1 : w7.cell? ⟨w.heap.size, 1, none⟩ = some (.string r.s) := E7.out.cell 1; have y2 : w7.cell? ⟨w.heap.size, 2, none⟩ = some (.int .i64 (r.g : Int)) := E7.out.cell 2; have y3 : w7.cell? ⟨w.heap.size, 3, none⟩ = some (.string r.p) := E7.out.cell 3; have y4 : w7.cell? ⟨w.heap.size, 4, none⟩ = some (.string r.d) := E7.out.cell 4; have yk : w7.cell? ⟨rb, 0, none⟩ = some (.pointer (some ⟨vb, 0, none⟩)) := (HT.out.below B7.out).row.cell 0; have K7 := hide (And.intro yk (And.intro y0 (And.intro y1 (And.intro y2 (And.intro y3 y4))))); have lw7 := E7.out.lt; have hw7 := B7.out.size; have ne5 : w7.heap.size ≠ rb := (by omega); have ne6 : rb ≠ w7.heap.size := (by omega); have ne7 : w7.heap.size ≠ w.heap.size := (by omega); have ne8 : w.heap.size ≠ w7.heap.size := (by omega); clear hb7)
      | (go_at_call 22; (with_reducible refine (HOO.out _ (BL.out.alloc BL.out.size (.cells #[.int .i64 0, .string ⟨#[]⟩, .string ⟨#[]⟩, .string ⟨#[]⟩, .string ⟨#[]⟩] 36)).drew).mono ?_); rintro y w7 ⟨rfl, hb7⟩; have B7 := hide ((BL.out.alloc BL.out.size (.cells #[.int .i64 0, .string ⟨#[]⟩, .string ⟨#[]⟩, .string ⟨#[]⟩, .string ⟨#[]⟩] 36)).drew.trans (hb7.mono (BL.out.alloc BL.out.size (.cells #[.int .i64 0, .string ⟨#[]⟩, .string ⟨#[]⟩, .string ⟨#[]⟩, .string ⟨#[]⟩] 36)).drew.size)); have X7 := hide ((HasR.new W1 36 #[.int .i64 0, .string ⟨#[]⟩, .string ⟨#[]⟩, .string ⟨#[]⟩, .string ⟨#[]⟩]).drew.below hb7 (HasR.new W1 36 _).drew.lt); have E7 := hide ((E0.out.alloc (.cells #[.int .i64 0, .string ⟨#[]⟩, .string ⟨#[]⟩, .string ⟨#[]⟩, .string ⟨#[]⟩] 36)).drew.below hb7 (E0.out.alloc (.cells #[.int .i64 0, .string ⟨#[]⟩, .string ⟨#[]⟩, .string ⟨#[]⟩, .string ⟨#[]⟩] 36)).drew.lt); have y0 : w7.cell? ⟨w.heap.size, 0, none⟩ = some (.int .i64 (r.q : Int)) := E7.out.cell 0; have y1 : w7.cell? ⟨w.heap.size, 1, none⟩ = some (.string r.s) := E7.out.cell 1; have y2 : w7.cell? ⟨w.heap.size, 2, none⟩ = some (.int .i64 (r.g : Int)) := E7.out.cell 2; have y3 : w7.cell? ⟨w.heap.size, 3, none⟩ = some (.string r.p) := E7.out.cell 3; have y4 : w7.cell? ⟨w.heap.size, 4, none⟩ = some (.string r.d) := E7.out.cell 4; have yk : w7.cell? ⟨rb, 0, none⟩ = some (.pointer (some ⟨vb, 0, none⟩)) := (HT.out.below B7.out).row.cell 0; have K7 := hide (And.intro yk (And.intro y0 (And.intro y1 (And.intro y2 (And.intro y3 y4))))); have z0 : w7.cell? ⟨W1.heap.size, 0, none⟩ = some (.int .i64 0) := X7.out.cell 0; have z1 : w7.cell? ⟨W1.heap.size, 1, none⟩ = some (.string ⟨#[]⟩) := X7.out.cell 1; have z2 : w7.cell? ⟨W1.heap.size, 2, none⟩ = some (.string ⟨#[]⟩) := X7.out.cell 2; have z3 : w7.cell? ⟨W1.heap.size, 3, none⟩ = some (.string ⟨#[]⟩) := X7.out.cell 3; have z4 : w7.cell? ⟨W1.heap.size, 4, none⟩ = some (.string ⟨#[]⟩) := X7.out.cell 4; have o0 : w7.frozen? ⟨W1.heap.size, 0, none⟩ = false := X7.out.free 0; have o1 : w7.frozen? ⟨W1.heap.size, 1, none⟩ = false := X7.out.free 1; have o2 : w7.frozen? ⟨W1.heap.size, 2, none⟩ = false := X7.out.free 2; have o3 : w7.frozen? ⟨W1.heap.size, 3, none⟩ = false := X7.out.free 3; have o4 : w7.frozen? ⟨W1.heap.size, 4, none⟩ = false := X7.out.free 4; clear hb7))
    all_goals
      go_wp2
      go_meet
      first
        | exact ⟨W1.heap.size, rfl, rfl, by omega, HasR.five X7.out _ _ _ _ _, B7.out.trans ((stir5 w7 W1.heap.size _ _ _ _ _).below B7.out.size (fun j hj => by simp at hj; omega))⟩
        | exact ⟨w7.heap.size, rfl, rfl, hw7, HasR.new w7 36 _, B7.out.alloc B7.out.size _⟩
  case rest =>
    clear e0 e1 e2 e3 e4 k0 ne1 ne2 ne3 ne4 E0 BL lw HOO
    obtain ⟨be, rfl, hs6, hbe, hXE, hB⟩ := hcut
    have XE := hide hXE
    have BB := hide hB
    have TB := hide (HT.out.below hB)
    have x0 : wc.cell? ⟨be, 0, none⟩ = some (.int .i64 x.k) := XE.out.cell 0
    have x1 : wc.cell? ⟨be, 1, none⟩ = some (.string x.s) := XE.out.cell 1
    have x2 : wc.cell? ⟨be, 2, none⟩ = some (.string x.t) := XE.out.cell 2
    have x3 : wc.cell? ⟨be, 3, none⟩ = some (.string x.r) := XE.out.cell 3
    have x4 : wc.cell? ⟨be, 4, none⟩ = some (.string x.v) := XE.out.cell 4
    clear hXE hB
    rcases hE with ⟨rfl, rfl⟩ | ⟨rfl, rfl, hrx, hbx⟩
    · subst hs6
      have I8 := hide (is8 wc)
      have l3 : wc.cell? ⟨rb, 3, none⟩ = some (.int .i64 (lost : Int)) := TB.out.row.cell 3
      have f3 : wc.frozen? ⟨rb, 3, none⟩ = false := TB.out.row.free 3
      go_wp2_with (go_at_call 92; (with_reducible refine I8.out.mono ?_); rintro y w8 ⟨rfl, hw⟩; obtain rfl := hw.symm)
      go_ret
      have hset := TB.out.row.set 3 (.int .i64 ((lost : Int) + 1))
      have hst : Stirred [rb] wc (wc.setCell ⟨rb, 3, none⟩ (.int .i64 ((lost : Int) + 1))) := Stirred.setCell wc ⟨rb, 3, none⟩ _
      refine ⟨rfl, mt, ⟨?_, TB.out.none, fun m e => ?_⟩, .inl rfl, (Stirred.of_below BB.out (rb :: mt.toList)).andThen hst (fun j hj => .inl (by simp at hj; simp [hj]))⟩
      · have e1 : (((lost + 1 : Nat)) : Int) = (lost : Int) + 1 := by omega
        first
          | (rw [if_pos rfl, e1]; exact hset)
          | (rw [e1]; exact hset)
      · obtain ⟨D, o, i⟩ := TB.out.held m e
        refine ⟨D, (ownsMap_turned o hst (by simp; exact TB.out.apart e)).mono (by omega), ?_⟩
        first
          | exact i
          | (rw [if_pos rfl]; exact i)
    · subst hs6
      have I8 := hide (isNil8 wc)
      have hne := nilNe
      have eo : errOf x = .nilIface := by unfold errOf; rw [if_pos hrx]
      have AP0 := apply_any rb 115 #[.pointer (some ⟨vb, 0, none⟩), .int .i64 (read : Int), .string mark, .int .i64 (lost : Int)] mt x nt τ wc.drew hbx hn (TB.out.below (Below.refl _ wc).drew)
      rw [eo, show (#[.pointer (some ⟨vb, 0, none⟩), .int .i64 (read : Int), .string mark, .int .i64 (lost : Int)] : Array Value).size = 4 from rfl] at AP0
      have AP := hide AP0
      clear AP0 eo
      have DX := hide (XE.out.drew)
      have nin : be ∉ rb :: mt.toList := fun hm => by
        rcases List.mem_cons.1 hm with e | e
        · omega
        · obtain ⟨D, o, _⟩ := HT.out.held be (by simpa using e)
          have := o.lt
          omega
      go_upto_region 7 with (go_at_call 92; (with_reducible refine I8.out.mono ?_); rintro y w8 ⟨rfl, hw⟩; obtain rfl := hw.symm)
      go_region_held3 (fun wx => wx.cell? ⟨be, 0, none⟩ = some (.int .i64 x.k) ∧ wx.cell? ⟨be, 1, none⟩ = some (.string x.s) ∧ wx.cell? ⟨be, 2, none⟩ = some (.string x.t) ∧ wx.cell? ⟨be, 3, none⟩ = some (.string x.r) ∧ wx.cell? ⟨be, 4, none⟩ = some (.string x.v)) (first | (with_reducible exact K5.out) | go_keep)
        ((go_at_call 44; (with_reducible refine AP.out.mono ?_); rintro y w9 ⟨rfl, mt', hu⟩; have HU := hide hu; have H5 := hide (DX.out.turned hu.2.2 nin); have k0 : w9.cell? ⟨be, 0, none⟩ = some (.int .i64 x.k) := H5.out.cell 0; have k1 : w9.cell? ⟨be, 1, none⟩ = some (.string x.s) := H5.out.cell 1; have k2 : w9.cell? ⟨be, 2, none⟩ = some (.string x.t) := H5.out.cell 2; have k3 : w9.cell? ⟨be, 3, none⟩ = some (.string x.r) := H5.out.cell 3; have k4 : w9.cell? ⟨be, 4, none⟩ = some (.string x.v) := H5.out.cell 4; have K5 := hide (And.intro k0 (And.intro k1 (And.intro k2 (And.intro k3 k4)))); clear hu))
      go_wp2
      go_ret
      have hsz := BB.out.size
      refine ⟨rfl, mt', ?_, ?_, ((Stirred.of_below BB.out.drew (rb :: mt.toList))).andThen HU.out.2.2 (fun j hj => .inl hj)⟩
      · first
          | exact HU.out.1
          | (rw [if_neg (by decide), if_neg (by decide)]; exact HU.out.1)
      · rcases HU.out.2.1 with e | ⟨e, m, e2, hl2⟩
        · exact .inl e
        · exact .inr ⟨e, m, e2, by simp at hl2; omega⟩
set_option maxRecDepth 100000 in
set_option maxHeartbeats 4000000 in
/-- The next record is read. -/
theorem read_next (w : World) (rb vb read lost : Nat) (mark : ByteArray) (mt : Option Nat) (nt : Nat) (τ : Tab) (r : Rec) (x : Ev) (er : Value) (lo : Bool) (h : TabV w rb 115 #[.pointer (some ⟨vb, 0, none⟩), .int .i64 (read : Int), .string mark, .int .i64 (lost : Int)] mt nt τ) (hO : ∀ wx, Below w.heap.size w wx → Calls Tryz.prog 22 #[.pointer (some ⟨vb, 0, none⟩), .agg #[.int .i64 (r.q : Int), .string r.s, .int .i64 (r.g : Int), .string r.p, .string r.d]] wx fun y w' => y = .returned (.tuple #[.agg #[.int .i64 x.k, .string x.s, .string x.t, .string x.r, .string x.v], er]) ∧ Below wx.heap.size wx w')
    (hE : (lo = true ∧ er = .iface 56 (.int .i64 8)) ∨ (lo = false ∧ er = .nilIface ∧ rightB x = true ∧ Brief x)) (hl : lost < 1000) (hn : nt < 1000) (hr : read < 1000) (hq : r.q = read + 1) (hp : r.p = markAt read mark) (hf : Fit r) (hK : TabK w) (h3 : ∀ j ∈ rb :: mt.toList, 3 < j) :
    Calls Tryz.prog 32 #[.pointer (some ⟨rb, 0, none⟩), .agg #[.int .i64 (r.q : Int), .string r.s, .int .i64 (r.g : Int), .string r.p, .string r.d]] w fun y w' => y = .returned .nilIface ∧ Took w w' rb vb (read + 1) (if lo = true then lost + 1 else lost) (markR r) mt nt (if lo = true then τ else app x τ) := by
  have bel : Below w.heap.size w (w.alloc (.cells #[.int .i64 (r.q : Int), .string r.s, .int .i64 (r.g : Int), .string r.p, .string r.d] 30)) := (Below.refl _ w).alloc (Nat.le_refl _) _
  have E0 := hide (HasR.new w 30 #[.int .i64 (r.q : Int), .string r.s, .int .i64 (r.g : Int), .string r.p, .string r.d])
  have HT := hide h
  have lr := h.row.lt
  have AT := hide (at_any _ rb vb read lost mark mt nt τ (h.below bel))
  have TC := hide (fun wx (hb : Below w.heap.size w wx) => take_cut wx rb vb read lost mark mt nt τ r x er (h.below hb) (fun wy hy => hO wy (hb.trans (hy.mono hb.size))) lo hE hl hn)
  have MK := hide (fun wx (hk : TabK wx) => markRec_any r wx hf hk)
  have TKK := hide (fun wx (t : Stirred (rb :: mt.toList) w wx) => (show TabK wx from fun i hi => (t.cell (p := ⟨3, i, none⟩) hK.lt (fun hm => by have := h3 3 hm; omega)).trans (hK i hi)))
  have BL := hide bel
  have hq1 := ptrR_nil rb
  have hne := nilNe
  have hqz : (r.q : Int) = (read : Int) + 1 := by omega
  have d1 : decide ((1 : Int) ≤ (read : Int) + 1) = true := by simp; omega
  have d2 : decide ((read : Int) + 1 ≤ (read : Int)) = false := by simp; omega
  have d3 : decide ((read : Int) + 1 < 1) = false := by simp; omega
  have hwr : IntKind.i64.wrap ((read : Int) + 1 - 1) = (read : Int) := by rw [IntKind.wrap_i64]; omega
  have n1 : ¬ (read : Int) + 1 ≤ (read : Int) := by omega
  have n2 : ¬ (read : Int) + 1 < 1 := by omega
  have n3 : (1 : Int) ≤ (read : Int) + 1 := by omega
  have hsx : ((markAt read mark).toList == (markAt read mark).toList) = true := by simp
  have NIN : Hid (w.heap.size ∉ rb :: mt.toList) := fun hm => by
    rcases List.mem_cons.1 hm with e | e
    · omega
    · obtain ⟨D, o, _⟩ := HT.out.held w.heap.size (by simpa using e)
      have := o.lt
      omega
  generalize (if lo = true then lost + 1 else lost) = lost2 at TC ⊢
  generalize (if lo = true then τ else app x τ) = τ2 at TC ⊢
  rw [hqz, hp] at E0 TC MK BL AT ⊢
  generalize markAt read mark = ma at E0 TC MK BL AT hsx ⊢
  clear h hO bel hE hK h3 hp
  go_enter Tryz.func32, Tryz.ntmps32
  go_upto_region 13 with (first
    | (go_at_call 35; (with_reducible refine AT.out.mono ?_); rintro y w1 ⟨rfl, hb1⟩
       have B1 := hide (BL.out.trans (hb1.mono BL.out.size))
       have E1 := hide (E0.out.below hb1 E0.out.lt)
       have e0 : w1.cell? ⟨w.heap.size, 0, none⟩ = some (.int .i64 ((read : Int) + 1)) := E1.out.cell 0
       have e1 : w1.cell? ⟨w.heap.size, 1, none⟩ = some (.string r.s) := E1.out.cell 1
       have e2 : w1.cell? ⟨w.heap.size, 2, none⟩ = some (.int .i64 (r.g : Int)) := E1.out.cell 2
       have e3 : w1.cell? ⟨w.heap.size, 3, none⟩ = some (.string ma) := E1.out.cell 3
       have e4 : w1.cell? ⟨w.heap.size, 4, none⟩ = some (.string r.d) := E1.out.cell 4
       clear hb1)
    | (go_at_call 64; (with_reducible refine (TC.out _ B1.out).mono ?_); rintro y w2 ⟨rfl, mt', hT2, hm2, hs2⟩
       have T2 := hide hT2
       have M2 := hide hm2
       have S2 := hide ((Stirred.of_below B1.out (rb :: mt.toList)).andThen hs2 (fun j hj => .inl hj))
       have E2 := hide (E1.out.turned hs2 NIN.out)
       clear hT2 hm2 hs2))
  clear e0 e1 e2 e3 e4
  have e0 : w2.cell? ⟨w.heap.size, 0, none⟩ = some (.int .i64 ((read : Int) + 1)) := E2.out.cell 0
  have e1 : w2.cell? ⟨w.heap.size, 1, none⟩ = some (.string r.s) := E2.out.cell 1
  have e2 : w2.cell? ⟨w.heap.size, 2, none⟩ = some (.int .i64 (r.g : Int)) := E2.out.cell 2
  have e3 : w2.cell? ⟨w.heap.size, 3, none⟩ = some (.string ma) := E2.out.cell 3
  have e4 : w2.cell? ⟨w.heap.size, 4, none⟩ = some (.string r.d) := E2.out.cell 4
  have MD := hide (MK.out _ (TKK.out _ S2.out.drew))
  have lr2 := T2.out.row.lt
  go_region_with ((go_at_call 65; (with_reducible refine MD.out.mono ?_); rintro y w3 ⟨rfl, hb3⟩; have T3 := hide ((T2.out.below (Below.refl _ w2).drew).below hb3); have S3 := hide (S2.out.drew.then_below hb3); have E3 := hide (E2.out.drew.below hb3 E2.out.drew.lt); have r1 : w3.cell? ⟨rb, 1, none⟩ = some (.int .i64 (read : Int)) := T3.out.row.cell 1; have q1 : w3.frozen? ⟨rb, 1, none⟩ = false := T3.out.row.free 1; have r2 : w3.cell? ⟨rb, 2, none⟩ = some (.string mark) := T3.out.row.cell 2; have q2 : w3.frozen? ⟨rb, 2, none⟩ = false := T3.out.row.free 2; have y0 : w3.cell? ⟨w.heap.size, 0, none⟩ = some (.int .i64 ((read : Int) + 1)) := E3.out.cell 0; clear hb3))
  all_goals
    go_wp2
    go_ret
    have s1 : Stirred [rb] w3 (w3.setCell ⟨rb, 1, none⟩ (.int .i64 ((read : Int) + 1))) := Stirred.setCell w3 ⟨rb, 1, none⟩ _
    have s2 : Stirred [rb] (w3.setCell ⟨rb, 1, none⟩ (.int .i64 ((read : Int) + 1))) ((w3.setCell ⟨rb, 1, none⟩ (.int .i64 ((read : Int) + 1))).setCell ⟨rb, 2, none⟩ (.string (markR r))) := Stirred.setCell _ ⟨rb, 2, none⟩ _
    have s12 := s1.andThen s2 (fun j hj => .inl hj)
    have hset := (T3.out.row.set 1 (.int .i64 ((read : Int) + 1))).set 2 (.string (markR r))
    have e1 : (((read + 1 : Nat)) : Int) = (read : Int) + 1 := by omega
    refine ⟨rfl, mt', ⟨?_, T3.out.none, fun m e => ?_⟩, M2.out.imp id (fun ⟨a, m, b, c⟩ => ⟨a, m, b, by have := B1.out.size; omega⟩), S3.out.andThen s12 (fun j hj => .inl (by simp at hj; simp [hj]))⟩
    · rw [e1]
      exact hset
    · obtain ⟨D, o, i⟩ := T3.out.held m e
      exact ⟨D, ownsMap_turned o s12 (by simp; exact T3.out.apart e), i⟩
end Go.Proofs.YtkbaalenbpgheaaGreatDoor

/- Nothing of it is left: the law's own walk. -/
namespace Go.Proofs.YtkbaalenbpgheaaGreatDoor
open Go.RowKit Go.Sort
attribute [local go_sem ↓] Go.wp_at_zero Go.wp_at_succ
set_option linter.unusedSectionVars false
variable [Inhabited Cl] [Inhabited Ev]
theorem rowLe {w : World} {b : Nat} {t : TypeId} {n len m c : Nat} {p : Option Addr} {l : List Value} (h : w.ownsRow b t n (.slice p m c) len l) : len ≤ c := by
  rcases h.2 with ⟨e1, e0⟩ | ⟨g, cap', cur, e1, _, _, a1, _⟩
  · omega
  · simp only [Value.slice.injEq] at e1
    rw [e1.2.2]; exact a1
theorem Dn.rowAt2 {B : Nat} {w : World} {σ : Kept} {τ : Tab} {rs : List Rec} {n : Nat} {ok : List Ev} {vok : Value} {vals : List Value} {g cap j : Nat} (h : Dn B w σ τ rs n ok vok (.slice (some ⟨g, 0, none⟩) vals.length cap) vals) (hj : j < vals.length) : w.cell? ⟨g, j, none⟩ = some (vals.getD j nilS) := by
  rw [h.rows.cellAt j (by omega), List.getD_eq_getElem?_getD, List.getElem?_eq_getElem hj]
  rfl
theorem gone_brief2 {s : ByteArray} (h : s.size ≤ 60) : Brief (goneOf s) := ⟨h, (by show (0 : Nat) ≤ 60; omega), (by show (0 : Nat) ≤ 60; omega), (by show (0 : Nat) ≤ 60; omega)⟩
theorem new_brief2 {s : ByteArray} (h : s.size ≤ 60) : Brief (newOf s) := ⟨h, (by show (2 : Nat) ≤ 60; omega), (by show (2 : Nat) ≤ 60; omega), (by show (0 : Nat) ≤ 60; omega)⟩
theorem do_gone {B : Nat} {w : World} {st : Hst} {s : ByteArray} {vok vrows : Value} {vals : List Value} (D : Dn B w st.σ st.τ st.rs st.ok.length st.ok vok vrows vals) (hDid : Did secB st) (T : Tabs w) (h3 : 3 < B) (hn : st.ok.length ≤ 60) (hs : s.size ≤ 60) (hd : doesB st.σ st.τ (goneOf s) = true) :
    Calls Tryz.prog 10 #[.pointer (some ⟨B + 2, 0, none⟩), .agg #[.int .i64 3, .string s, .string ⟨#[]⟩, .string ⟨#[]⟩, .string ⟨#[]⟩]] w fun x w' => ∃ R : Rec, x = .returned (.tuple #[.agg #[.int .i64 (R.q : Int), .string R.s, .int .i64 (R.g : Int), .string R.p, .string R.d], .nilIface]) ∧ Dn B w' (hstep secB st (goneOf s)).σ (hstep secB st (goneOf s)).τ (hstep secB st (goneOf s)).rs (hstep secB st (goneOf s)).ok.length st.ok vok vrows vals ∧ Below B w w' := by
  obtain ⟨mt, mv, v, hS, hoff⟩ := D.src
  refine (do_yes B w _ _ _ _ _ _ _ _ _ _ _ _ (goneOf s) hS (gone_brief2 hs) (by decide) (by rw [hDid.recs.1]; omega) (by omega) (by omega) T h3 hd).mono ?_
  rintro x w' ⟨R, hR, rfl, ⟨mt7, m7, v7, hS7, hN⟩, hst, hb⟩
  refine ⟨R, rfl, ?_, hb⟩
  rw [hstep_yes hd]
  simp only [List.length_append, List.length_singleton]
  rw [← hR]
  exact Dn.do D hS hoff hS7 hN hst
/-- What is known behind the Gone. -/
structure Behind (st s2 : Hst) (s : ByteArray) (N : Nat) : Prop where
  did : Did secB s2
  len : s2.ok.length = st.ok.length + 1
  rows : ∀ ds, InOrd st.τ ds → InOrd s2.τ (ds.filter fun c => !decide (c.s = s))
  key : (s2.σ s.data.toList).2 = false
  num : (s2.σ s.data.toList).1 = N
  named : nameB s.data.toList = true
  old : ∀ r ∈ s2.rs, r.s = s → r.g ≤ N
  tale : ∀ i, i < st.ok.length → ∃ lost : Bool, RecOf secB s2.σ (st.ok.getD i ev0) (s2.rs.getD i recZ) lost ∧ ((st.ok.getD i ev0).s = s → lost = true)
theorem behind_gone {st : Hst} {s : ByteArray} (h : Did secB st) (hd : doesB st.σ st.τ (goneOf s) = true) : Behind st (hstep secB st (goneOf s)) s (st.σ s.data.toList).1 := by
  have h2 : Did secB (hstep secB st (goneOf s)) := h.next _
  have hok : (hstep secB st (goneOf s)).ok = st.ok ++ [goneOf s] := by rw [hstep_yes hd]
  have hσ : (hstep secB st (goneOf s)).σ = tellK st.σ (goneOf s) := by rw [hstep_yes hd]
  have hτ : (hstep secB st (goneOf s)).τ = app (goneOf s) st.τ := by rw [hstep_yes hd]
  refine ⟨h2, by rw [hok]; simp, fun ds ho => by rw [hτ]; exact ho.gone (gone_named hd), by rw [hσ, gone_key], by rw [hσ, gone_key], gone_named hd, fun r hr hs => gone_old h2 hd r hr hs, fun i hi => ?_⟩
  have a1 : (hstep secB st (goneOf s)).ok.getD i ev0 = st.ok.getD i ev0 := by rw [hok]; simp [List.getD_eq_getElem?_getD, List.getElem?_append_left hi]
  have hi2 : i < (hstep secB st (goneOf s)).ok.length := by rw [hok]; simp; omega
  have hx := (h2.recs.2 i hi2).1
  refine ⟨_, by rw [a1] at hx; exact hx, fun hs => ?_⟩
  have := gone_lost (sec := secB) hd hi hs
  rw [a1] at this
  exact this
theorem new_gen {s2 : Hst} {s : ByteArray} {N : Nat} (hk : (s2.σ s.data.toList).2 = false) (hn : (s2.σ s.data.toList).1 = N) : (tellR secB s2.σ s2.rs (newOf s)).g = N + 1 := by
  have e1 : tellR secB s2.σ s2.rs (newOf s) = sealR secB s2.σ (newR s2.rs (newOf s)) (textB (newOf s)) := if_neg (by show ¬ (1 : Int) = 3; decide)
  rw [e1]
  show genR s2.σ s = N + 1
  unfold genR made
  rw [if_pos rfl, hk, ← hn]
  rfl
theorem none_new {rs : List Rec} {s : ByteArray} {N : Nat} (h : ∀ r ∈ rs, r.s = s → r.g ≤ N) : (rs.any fun r => decide (r.s = s) && decide (N + 1 ≤ r.g)) = false := by
  rw [List.any_eq_false]
  intro r hr
  simp only [Bool.and_eq_true, decide_eq_true_eq, not_and]
  intro hs
  have := h r hr hs
  omega
theorem any_zz {τ : Tab} {ds : List Cl} (h : InOrd τ ds) (hp : ∃ p, τ zz zz = some p) : (ds.any fun c => decide (c.t = ⟨#[122, 122]⟩) && decide (c.r = ⟨#[122, 122]⟩)) = true := by
  obtain ⟨p, hp⟩ := hp
  rw [List.any_eq_true]
  exact ⟨⟨zz, zz, p.1, p.2⟩, (h.2 _).2 hp, by simp [zz]⟩
set_option maxRecDepth 100000 in
set_option maxHeartbeats 16000000 in
theorem forgets_any (v : Value) (es : List Ev) (s : ByteArray) (w : World) (T : Tabs w) (hv : EvRow w v es) :
    Calls Tryz.prog 3 #[v, .string s] w fun x w' => x = .returned (.bool true) ∧ Below w.heap.size w w' := by
  have bel : Below w.heap.size w (w.alloc (.cells #[.string s] 9)) := (Below.refl _ w).alloc (Nat.le_refl _) _
  have E0 := hide (HasR.new w 9 #[.string s])
  have F := hide (few_any v es (w.alloc (.cells #[.string s] 9)) (hv.turned bel (Nat.le_refl _)))
  have TK := T.k.lt
  have TT := hide T
  have HV := hide hv
  have BL := hide bel
  obtain ⟨ao, cap, rfl⟩ := hv.slice
  clear hv T bel
  cases hf : fewB es
  · rw [hf] at F
    go_enter Tryz.func3, Tryz.ntmps3
    go_wp2_with (go_at_call 6; (with_reducible refine F.out.mono ?_); rintro x w1 ⟨rfl, hb1⟩)
    go_ret
    exact ⟨rfl, BL.out.trans (hb1.mono BL.out.size)⟩
  rw [hf] at F
  by_cases h40 : 40 < s.size
  · have d1 : decide ((40 : Int) < (s.size : Int)) = true := decide_eq_true (by omega)
    have d2 : (40 : Int) < (s.size : Int) := by omega
    go_enter Tryz.func3, Tryz.ntmps3
    go_wp2_with (
      go_at_call 6; (with_reducible refine F.out.mono ?_); rintro x w1 ⟨rfl, hb1⟩
      have e1 : w1.cell? ⟨w.heap.size, 0, none⟩ = some (.string s) := (E0.out.below hb1 E0.out.lt).cell 0)
    go_ret
    exact ⟨rfl, BL.out.trans (hb1.mono BL.out.size)⟩
  have d1 : decide ((40 : Int) < (s.size : Int)) = false := decide_eq_false (by omega)
  have d2 : ¬ (40 : Int) < (s.size : Int) := by omega
  obtain ⟨h30, hbr⟩ := few_brief hf
  have BR := hide hbr
  clear hf hbr
  have hps := ptrS_nil
  have hDid := hide (Did.hist (sec := secB) es Did.none)
  have hfew := hist_few (sec := secB) es hst0
  have hf0 : hst0.ok.length = 0 := rfl
  have BRO := hide (fun e (he : e ∈ (hist secB es hst0).ok) => BR.out e (by rcases hist_sub (sec := secB) es hst0 e he with h | h; (simp [hst0] at h); (exact h)))
  have DA := hide (fun wx (hb : Below w.heap.size w wx) => done_any (.slice ao es.length cap) es wx (TT.out.below hb TK) (HV.out.turned hb (Nat.le_refl _)) (by omega) BR.out)
  generalize hist secB es hst0 = st at hDid hfew DA BRO
  have hok : st.ok.length ≤ 30 := by omega
  have HRL := hide hDid.out.recs.1
  have hs60 : s.size ≤ 60 := by omega
  clear hfew hf0
  go_enter Tryz.func3, Tryz.ntmps3
  go_upto_region 8 with (first
    | (go_at_call 6; (with_reducible refine F.out.mono ?_); rintro x w1 ⟨rfl, hb1⟩
       have B1 := hide (BL.out.trans (hb1.mono BL.out.size))
       have E1 := hide (E0.out.below hb1 E0.out.lt)
       have e1 : w1.cell? ⟨w.heap.size, 0, none⟩ = some (.string s) := E1.out.cell 0
       have F2 := hide (fed_any w1 (TT.out.below B1.out TK))
       clear hb1)
    | (go_at_call 7; (with_reducible refine F2.out.mono ?_); rintro x w2 ⟨rfl, hb2⟩
       have B2 := hide (B1.out.trans (hb2.mono B1.out.size))
       have E2 := hide (E1.out.below hb2 E1.out.lt)
       have F3 := hide (applied_any w2)
       clear hb2)
    | (go_at_call 8; (with_reducible refine F3.out.mono ?_); rintro x w3 ⟨rfl, hb3⟩
       have B3 := hide (B2.out.trans (hb3.mono B2.out.size))
       have E3 := hide (E2.out.below hb3 E2.out.lt)
       have l3 := E3.out.lt
       clear hb3)
    | (go_at_call 9; (with_reducible refine (DA.out _ B3.out).mono ?_); rintro x w4 ⟨vok, vrows, vals, rfl, hD, hvl, hb4⟩
       have D4 := hide hD
       have B4 := hide (B3.out.trans (hb4.mono B3.out.size))
       have E4 := hide (E3.out.below hb4 E3.out.lt)
       have HVL := hide hvl
       obtain ⟨po, co, rfl⟩ := ownsRow_slice hD.noted
       obtain ⟨pr, cr, rfl⟩ := ownsRow_slice hD.rows
       clear hD hvl hb4))
  have hB3 := B3.out.size
  have e4 : w4.cell? ⟨w.heap.size, 0, none⟩ = some (.string s) := E4.out.cell 0
  obtain ⟨mt, mv, vv, hS4, hoff4⟩ := D4.out.src
  have S4 := hide hS4
  have OF4 := hide hoff4
  have CO := hide (fun wx (hb : Below w4.heap.size w4 wx) => containsEv _ st.ok 12 #[.pointer (some ⟨w.heap.size, 0, none⟩)] (enters_of Tryz.func12 (by kernel_rfl) rfl) (fun e => decide (e.s = s)) wx (evRow_of (ownsRow_below D4.out.noted hb)) (by omega) (fun W x hW => (gone1_any x w.heap.size s W ((E4.out.below (hb.trans (hW.mono hb.size)) E4.out.lt).cell 0)).mono fun _ _ ⟨he, h⟩ => ⟨he, hW.trans (h.mono hW.size)⟩))
  have eg12 : ∀ args w, (callFunc 12 args).run Tryz.prog w = .ok (.enter 12 args) w := enters_of Tryz.func12 (by kernel_rfl) rfl
  clear hS4 hoff4 F F2 F3 DA B1 B2 E1 E2 e1
  cases hd : doesB st.σ st.τ (goneOf s)
  · have DO : Hid (Calls Tryz.prog 10 #[.pointer (some ⟨w3.heap.size + 2, 0, none⟩), .agg #[.int .i64 3, .string s, .string ⟨#[]⟩, .string ⟨#[]⟩, .string ⟨#[]⟩]] w4 fun x w' => (∃ n : Int, x = .returned (.tuple #[.agg #[.int .i64 0, .string ⟨#[]⟩, .int .i64 0, .string ⟨#[]⟩, .string ⟨#[]⟩], .iface 56 (.int .i64 n)])) ∧ Below w4.heap.size w4 w') :=
      hide ((do_no _ w4 _ _ _ _ _ _ _ _ _ _ _ _ (goneOf s) S4.out (gone_brief2 hs60) (by decide) (by rw [HRL.out]; omega) (by omega) (by omega) (TT.out.below B4.out TK) (by omega) hd).mono (fun x w' h => ⟨h.1, h.2.2⟩))
    have hen := errNe
    have GN := hide (gone_no hDid.out hd)
    have hAny : ∃ ha : Bool, st.ok.any (fun e => decide (e.s = s)) = ha := ⟨_, rfl⟩
    obtain ⟨ha, hha⟩ := hAny
    rw [hha] at CO
    have HHA := hide hha
    clear hha
    go_wp2_with (first
      | (go_at_call 10; (with_reducible refine DO.out.mono ?_); rintro x w5 ⟨⟨z, rfl⟩, hb5⟩
         have B5 := hide (hb5.alloc hb5.size (.cells #[.int .i64 0, .string ⟨#[]⟩, .int .i64 0, .string ⟨#[]⟩, .string ⟨#[]⟩] 30))
         have CE := hide (CO.out _ B5.out)
         clear hb5)
      | (go_at_call 11; (with_reducible refine CE.out.mono ?_); rintro x w6 ⟨rfl, hb6⟩
         have B6 := hide (B5.out.trans (hb6.mono B5.out.size))
         clear hb6))
    clear DO CO CE B5
    go_loopw [11, 12] (fun a i wr => ∃ (j : Nat) (y : Int), a = .int .i64 y ∧ i = .int .i64 (j : Int) ∧ y = lastI st.ok s j ∧ j ≤ st.ok.length ∧ Below w4.heap.size w4 wr) (fun _ i _ => st.ok.length - (intOf i).toNat)
    case atStart => exact ⟨0, -1, rfl, rfl, rfl, Nat.zero_le _, B6.out⟩
    case round =>
      clear B6
      obtain ⟨j, y, rfl, rfl, hy, hj, hb⟩ := hrel
      have HY := hide hy
      have BB := hide hb
      clear hy hb
      by_cases hlt : j < st.ok.length
      · obtain ⟨g, rfl, _⟩ := block_of D4.out.noted (by omega)
        obtain ⟨c0, c1, c2, c3, c4, hg⟩ := evs_c (ownsRow_below D4.out.noted BB.out) hlt
        have hco := rowLe D4.out.noted
        have hsb : wr.cell? ⟨w.heap.size, 0, none⟩ = some (.string s) := (E4.out.below BB.out E4.out.lt).cell 0
        have hq := same_bytes (st.ok.getD j ev0).s s
        have HST : Hid (lastI st.ok s (j + 1) = if (st.ok.getD j ev0).s = s then (j : Int) else lastI st.ok s j) := rfl
        have i1 : (j : Int) < (st.ok.length : Int) := by omega
        generalize st.ok.getD j ev0 = e at c0 c1 c2 c3 c4 hq HST
        by_cases he : e.s = s
        · have q1 : (e.s.toList == s.toList) = true := by rw [hq]; exact decide_eq_true he
          have HN := hide (HST.out.trans (if_pos he))
          clear hq he HST
          go_upto_region 15 with fail
          go_quiet (fail)
          go_wp2
          exact ⟨⟨j + 1, (j : Int), rfl, by go_num, HN.out.symm, by omega, below_dn BB.out _⟩, by simp [intOf]; omega⟩
        · have q1 : (e.s.toList == s.toList) = false := by rw [hq]; exact decide_eq_false he
          have HN := hide ((HST.out.trans (if_neg he)).trans HY.out.symm)
          clear hq he HST
          go_upto_region 15 with fail
          go_quiet (fail)
          go_wp2
          exact ⟨⟨j + 1, y, rfl, by go_num, HN.out.symm, by omega, below_dn BB.out _⟩, by simp [intOf]; omega⟩
      · have ej : j = st.ok.length := by omega
        subst ej
        rcases GN.out with h | ⟨h, k, hk, hkl, hk3⟩
        · obtain rfl : ha = false := HHA.out.symm.trans h
          clear h
          go_wp2
          go_ret
          exact ⟨rfl, B4.out.trans (BB.out.mono B4.out.size)⟩
        · obtain rfl : ha = true := HHA.out.symm.trans h
          obtain rfl : y = (k : Int) := HY.out.trans hk
          obtain ⟨g, rfl, _⟩ := block_of D4.out.noted (by omega)
          obtain ⟨c0, c1, c2, c3, c4, hg⟩ := evs_c (ownsRow_below D4.out.noted BB.out) hkl
          rw [hk3] at c0
          have hco := rowLe D4.out.noted
          have i1 : (k : Int) < (st.ok.length : Int) := by omega
          clear h hk hk3 HY
          go_wp2
          go_ret
          exact ⟨rfl, B4.out.trans (BB.out.mono B4.out.size)⟩
  · have DO := hide (do_gone D4.out hDid.out (TT.out.below B4.out TK) (by omega) (by omega) hs60 hd)
    have BH := hide (behind_gone hDid.out hd)
    generalize hstep secB st (goneOf s) = s2 at DO BH
    generalize (st.σ s.data.toList).1 = N at BH
    have hne := nilNe
    have hl2 := BH.out.len
    have HRL2 := hide BH.out.did.recs.1
    clear CO S4 OF4
    go_upto_region 20 with (first
      | (go_at_call 10; (with_reducible refine DO.out.mono ?_); rintro x w5 ⟨R, rfl, hD5, hb5⟩
         have Z5 := (Below.refl _ w5).alloc (Nat.le_refl _) (.cells #[.int .i64 (R.q : Int), .string R.s, .int .i64 (R.g : Int), .string R.p, .string R.d] 30)
         have D5 := hide (hD5.still Z5)
         have B5 := hide ((B4.out.trans (hb5.mono hB3)).trans (Z5.mono (B4.out.trans (hb5.mono hB3)).size))
         have E5 := hide ((E4.out.below hb5 l3).alloc (.cells #[.int .i64 (R.q : Int), .string R.s, .int .i64 (R.g : Int), .string R.p, .string R.d] 30))
         have CE := hide (containsEv _ st.ok 12 #[.pointer (some ⟨w.heap.size, 0, none⟩)] (enters_of Tryz.func12 (by kernel_rfl) rfl) (fun e => decide (e.s = s)) _ (evRow_of D5.out.noted) (by omega) (fun W x hW => (gone1_any x w.heap.size s W ((E5.out.below hW E5.out.lt).cell 0)).mono fun _ _ ⟨he, h⟩ => ⟨he, hW.trans (h.mono hW.size)⟩))
         clear hD5 hb5 Z5)
      | (go_at_call 11; (with_reducible refine CE.out.mono ?_); rintro x w8 ⟨rfl, hb8⟩
         have D8 := hide (D5.out.still hb8)
         have B8 := hide (B5.out.trans (hb8.mono B5.out.size))
         have E8 := hide (E5.out.below hb8 E5.out.lt)
         obtain ⟨mt8, mv8, vv8, hS8, hoff8⟩ := D8.out.src
         have HOF := hide hS8.oldO
         have S8 := hide hS8
         have FE := hide (srcFeed_any _ w8 _ _ _ _ _ _ _ _ _ _ _ _ hS8 (by rw [HRL2.out]; omega))
         clear hb8 hS8 hoff8)
      | (go_at_call 13; (with_reducible refine FE.out.mono ?_); rintro x w9 ⟨vf, rfl, hr9, hb9⟩
         have FD := hide hr9
         obtain ⟨pf, cf, rfl⟩ := ownsRow_slice hr9
         have D9 := hide (D8.out.still hb9)
         have S9 := hide (S8.out.still hb9)
         have B9 := hide (B8.out.trans (hb9.mono B8.out.size))
         have E9 := hide (E8.out.below hb9 E8.out.lt)
         have l89 := hb9.size
         clear hr9 hb9))
    clear DO CE FE D4 D5 D8 S8 E4 E5 E8 B4 B5 B8 e4
    have hn1 : st.ok.length < vals.length := by have := HVL.out; omega
    obtain ⟨gr, rfl, _⟩ := block_of D9.out.rows (by omega)
    have hcr := rowLe D9.out.rows
    have hwr : IntKind.i64.wrap ((vals.length : Int) - 1) = (st.ok.length : Int) := by have := HVL.out; rw [IntKind.wrap_i64]; omega
    have n0 : (0 : Int) ≤ (st.ok.length : Int) := by omega
    have n1 : (st.ok.length : Int) < (vals.length : Int) := by omega
    obtain ⟨ds, hO, hdl, _⟩ := D9.out.cells st.ok.length hn1
    rw [List.take_length, ← hDid.out.tau] at hO
    have HO := hide (BH.out.rows ds hO)
    have CU : Hid (∀ wx, Below w9.heap.size w9 wx → RowC wx 0 (vals.getD st.ok.length nilS) ds) := hide (fun wx hb => by
      obtain ⟨ds', a, _, c⟩ := (D9.out.still hb).cells st.ok.length hn1
      rw [List.take_length, ← hDid.out.tau] at a
      obtain rfl := a.eq hO
      exact c)
    have KS : Hid (∀ wx, Below w9.heap.size w9 wx → wx.cell? ⟨gr, st.ok.length, none⟩ = some (vals.getD st.ok.length nilS) ∧ wx.cell? ⟨w.heap.size, 0, none⟩ = some (.string s)) := hide (fun wx hb => ⟨(D9.out.still hb).rowAt2 hn1, (E9.out.below hb E9.out.lt).cell 0⟩)
    generalize vals.getD st.ok.length nilS = uL at CU KS
    have BD := hide (Below.refl w9.heap.size w9).drew
    have SC := hide (srcCells_any _ w9.drew _ _ _ _ _ _ _ _ _ _ _ _ (S9.out.still BD.out) (by omega))
    have CL := hide (fun wx (hb : Below w9.heap.size w9 wx) => clone_any 0 uL ds wx (CU.out wx hb) (by omega))
    have STK := hide (fun (wa wb : World) (u : Value) (hb : Below w9.heap.size w9 wa) (ho : wb.ownsRow wa.heap.size 42 4 u ds.length (cellsL ds)) (hb2 : Below wa.heap.size wa wb) => strike_any wa.heap.size w.heap.size u ds (fun c => decide (c.s = s)) wb ho (by omega) (fun W x hW => gone2_any x w.heap.size s W (((E9.out.below hb E9.out.lt).below (hb2.trans hW) (E9.out.below hb E9.out.lt).lt).cell 0)))
    have VT := hide (fun wx (hb : Below w9.heap.size w9 wx) => srcVault_any _ wx _ _ _ _ _ _ _ _ _ _ _ _ (S9.out.still hb))
    have SB := hide (fun wx (hb : Below w9.heap.size w9 wx) => subjects_any _ _ _ _ _ wx (by omega) (S9.out.still hb).keys)
    have d9 := (KS.out _ (Below.refl _ w9)).1
    have hgr : gr < w9.heap.size := block_lt_of_cell d9
    have g9 := (KS.out _ (Below.refl _ w9)).2
    have eg14 : ∀ args w, (callFunc 14 args).run Tryz.prog w = .ok (.enter 14 args) w := enters_of Tryz.func14 (by kernel_rfl) rfl
    clear hO
    go_cut [99] (fun s99 wx => s99 = .bool false ∧ Below w9.heap.size w9 wx)
    case first =>
      go_region_held3 (fun wx => wx.cell? ⟨gr, st.ok.length, none⟩ = some uL ∧ wx.cell? ⟨w.heap.size, 0, none⟩ = some (.string s)) (first | (with_reducible exact K19.out) | (with_reducible exact K21.out) | (with_reducible exact K15.out) | (with_reducible exact K17.out) | (with_reducible exact K18.out) | (with_reducible exact K16.out) | go_keep)
        (first
        | (go_at_call 16; (with_reducible refine SC.out.mono ?_); rintro y w10 ⟨u10, ds10, rfl, ho, hl, hr, hb⟩; obtain rfl := ho.eq HO.out; have B10 := hide (BD.out.trans (hb.mono BD.out.size)); have R10 := hide hr; have K16 := hide (KS.out _ B10.out); have CL10 := hide (CL.out _ B10.out); clear ho hr hb)
        | (go_at_call 18; (with_reducible refine CL10.out.mono ?_); rintro y w11 ⟨u11, rfl, ho, hb⟩; have B11 := hide (B10.out.trans (hb.mono B10.out.size)); have K18 := hide (KS.out _ B11.out); have X11 := hide hb; have ST11 := hide (STK.out w10 w11 u11 B10.out ho hb); clear ho hb)
        | (go_at_call 17; (with_reducible refine ST11.out.mono ?_); rintro y w12 ⟨u12, rfl, hr, hb⟩; have X12 := hide (X11.out.trans hb); have B12 := hide (B10.out.trans (X12.out.mono B10.out.size)); have K17 := hide (KS.out _ B12.out); have EQ := hide (equal_any _ _ _ _ _ w12 (R10.out.below X12.out (Nat.le_refl _)) hr (Nat.le_trans (List.length_filter_le _ _) (by omega))); clear hr hb)
        | (go_at_call 15; (with_reducible refine EQ.out.mono ?_); rintro y w13 ⟨rfl, hb⟩; have B13 := hide (B12.out.trans (hb.mono B12.out.size)); have K15 := hide (KS.out _ B13.out); have VT13 := hide (VT.out _ B13.out); have SB13 := hide (SB.out _ B13.out); clear hb)
        | (go_at_call 20; (with_reducible refine VT13.out.mono ?_); rintro y w14 ⟨rfl, hw14⟩; obtain rfl := hw14.symm)
        | (go_at_call 21; (with_reducible refine SB13.out.mono ?_); rintro y w15 ⟨u15, ts, rfl, ho, hl, hr, hb⟩; have B15 := hide (B13.out.trans (hb.mono B13.out.size)); have K21 := hide (KS.out _ B15.out); have CT := hide (containsT_none _ u15 ts s w15 hr (by omega) (not_subject ho BH.out.key)); clear ho hr hb)
        | (go_at_call 19; (with_reducible refine CT.out.mono ?_); rintro y w16 ⟨rfl, hb⟩; have B16 := hide (B15.out.trans (hb.mono B15.out.size)); have K19 := hide (KS.out _ B16.out); clear hb))
      all_goals
        go_wp2
        go_meet
        exact ⟨rfl, B16.out⟩
    case rest =>
      obtain ⟨rfl, hbc⟩ := hcut
      have BC := hide hbc
      clear hbc
      clear SC CL STK VT SB CU KS HO d9 g9 hgr hwr n0 n1 hcr hdl HVL
      have hrl : s2.rs.length = s2.ok.length := HRL2.out
      have hrp : 0 < s2.rs.length := by omega
      have hrj : st.ok.length < s2.rs.length := by omega
      have hrs1 : s2.rs.length ≤ 1000 := by omega
      clear hrl
      obtain ⟨gf, rfl, _⟩ := block_of FD.out hrp
      have hcf := rowLe FD.out
      have VT := hide (fun wx (hb : Below w9.heap.size w9 wx) => srcVault_any _ wx _ _ _ _ _ _ _ _ _ _ _ _ (S9.out.still hb))
      have TB := hide (fun wx (hb : Below w9.heap.size w9 wx) => TT.out.below (B9.out.trans (hb.mono B9.out.size)) TK)
      have SBX := hide (fun wx (hb : Below w9.heap.size w9 wx) => (show wx.cell? ⟨w.heap.size, 0, none⟩ = some (.string s) from (E9.out.below hb E9.out.lt).cell 0))
      go_wp2
      go_loopw [15] (fun i wr => ∃ j : Nat, i = .int .i64 (j : Int) ∧ j ≤ st.ok.length ∧ Below w9.heap.size w9 wr) (fun i _ => st.ok.length - (intOf i).toNat)
      case atStart => exact ⟨0, rfl, Nat.zero_le _, BC.out⟩
      case round =>
        clear BC
        obtain ⟨j, rfl, hj, hb⟩ := hrel
        have BB := hide hb
        clear hb
        by_cases hlt : j < st.ok.length
        · obtain ⟨go, rfl, _⟩ := block_of D9.out.noted (by omega)
          have hco := rowLe D9.out.noted
          have hlt2 : j < s2.rs.length := by omega
          obtain ⟨lost, hRO, hls⟩ := BH.out.tale j hlt
          have hfit : Fit (s2.rs.getD j recZ) := S9.out.fit _ (getD_mem hlt2)
          obtain ⟨x, er, hx, hO⟩ := open_either hRO hfit
          have HX := hide hx
          have HLS := hide hls
          have HO2 := hide (fun wx (hb : Below w9.heap.size w9 wx) => (hO _ _ _ _ _ _ _ _ _ _ _ _ (S9.out.still hb) (TB.out wx hb) : Calls Tryz.prog 22 #[.pointer (some ⟨w3.heap.size, 0, none⟩), .agg #[.int .i64 ((s2.rs.getD j recZ).q : Int), .string (s2.rs.getD j recZ).s, .int .i64 ((s2.rs.getD j recZ).g : Int), .string (s2.rs.getD j recZ).p, .string (s2.rs.getD j recZ).d]] wx fun y w' => y = .returned (.tuple #[.agg #[.int .i64 x.k, .string x.s, .string x.t, .string x.r, .string x.v], er]) ∧ Below wx.heap.size wx w'))
          have FC := hide (fun wx (hb : Below w9.heap.size w9 wx) => recs_c (ownsRow_below FD.out hb) rfl hlt2)
          have OC := hide (fun wx (hb : Below w9.heap.size w9 wx) => evs_c (D9.out.still hb).noted hlt)
          have i1 : (j : Int) < (st.ok.length : Int) := by omega
          have i2 : (j : Int) < (s2.rs.length : Int) := by omega
          clear hRO hls hfit hx hO
          generalize st.ok.getD j ev0 = e at HX HLS OC
          generalize s2.rs.getD j recZ = r at FC HO2
          obtain ⟨f0, f1, f2, f3, f4, hgf⟩ := FC.out _ BB.out
          go_upto_region 25 with fail
          have LS1 := hide (BB.out.drew)
          have LS2 := hide ((BB.out.alloc BB.out.size (.cells #[.int .i64 0, .string ⟨#[]⟩, .string ⟨#[]⟩, .string ⟨#[]⟩, .string ⟨#[]⟩] 36)).drew)
          have VT1 := hide (VT.out _ LS1.out)
          have VT2 := hide (VT.out _ LS2.out)
          have HO21 := hide (HO2.out _ LS1.out)
          have HO22 := hide (HO2.out _ LS2.out)
          have ne3 : wr.heap.size ≠ gf := by omega
          have ne4 : gf ≠ wr.heap.size := by omega
          go_cut [16, 17] (fun s16 s17 wx => ∃ be : Nat, s16 = .pointer (some ⟨be, 0, none⟩) ∧ s17 = er ∧ HasR wx be 36 #[.int .i64 x.k, .string x.s, .string x.t, .string x.r, .string x.v] ∧ Below w9.heap.size w9 wx)
          case first =>
            go_region_held3 (fun wx => wx.cell? ⟨gf, j * 5, none⟩ = some (.int .i64 (r.q : Int)) ∧ wx.cell? ⟨gf, j * 5 + 1, none⟩ = some (.string r.s) ∧ wx.cell? ⟨gf, j * 5 + 2, none⟩ = some (.int .i64 (r.g : Int)) ∧ wx.cell? ⟨gf, j * 5 + 3, none⟩ = some (.string r.p) ∧ wx.cell? ⟨gf, j * 5 + 4, none⟩ = some (.string r.d)) (first | (with_reducible exact K7.out) | go_keep)
              (first
              | (go_at_call 20; (with_reducible refine VT1.out.mono ?_); rintro y w6 ⟨rfl, hw6⟩; obtain rfl := hw6.symm)
              | (go_at_call 20; (with_reducible refine VT2.out.mono ?_); rintro y w6 ⟨rfl, hw6⟩; obtain rfl := hw6.symm)
              | (go_at_call 22; (with_reducible refine HO21.out.mono ?_); rintro y w7 ⟨rfl, hb7⟩; have L7 := hide (LS1.out.trans (hb7.mono LS1.out.size)); obtain ⟨y0, y1, y2, y3, y4, lg7⟩ := FC.out _ L7.out; have K7 := hide (And.intro y0 (And.intro y1 (And.intro y2 (And.intro y3 y4)))); have ne7 : w7.heap.size ≠ gf := (by omega); have ne8 : gf ≠ w7.heap.size := (by omega); clear hb7)
              | (go_at_call 22; (with_reducible refine HO22.out.mono ?_); rintro y w7 ⟨rfl, hb7⟩; have L7 := hide (LS2.out.trans (hb7.mono LS2.out.size)); have X7 := hide ((HasR.new wr 36 #[.int .i64 0, .string ⟨#[]⟩, .string ⟨#[]⟩, .string ⟨#[]⟩, .string ⟨#[]⟩]).drew.below hb7 (HasR.new wr 36 _).drew.lt); obtain ⟨y0, y1, y2, y3, y4, lg7⟩ := FC.out _ L7.out; have K7 := hide (And.intro y0 (And.intro y1 (And.intro y2 (And.intro y3 y4)))); have z0 : w7.cell? ⟨wr.heap.size, 0, none⟩ = some (.int .i64 0) := X7.out.cell 0; have z1 : w7.cell? ⟨wr.heap.size, 1, none⟩ = some (.string ⟨#[]⟩) := X7.out.cell 1; have z2 : w7.cell? ⟨wr.heap.size, 2, none⟩ = some (.string ⟨#[]⟩) := X7.out.cell 2; have z3 : w7.cell? ⟨wr.heap.size, 3, none⟩ = some (.string ⟨#[]⟩) := X7.out.cell 3; have z4 : w7.cell? ⟨wr.heap.size, 4, none⟩ = some (.string ⟨#[]⟩) := X7.out.cell 4; have o0 : w7.frozen? ⟨wr.heap.size, 0, none⟩ = false := X7.out.free 0; have o1 : w7.frozen? ⟨wr.heap.size, 1, none⟩ = false := X7.out.free 1; have o2 : w7.frozen? ⟨wr.heap.size, 2, none⟩ = false := X7.out.free 2; have o3 : w7.frozen? ⟨wr.heap.size, 3, none⟩ = false := X7.out.free 3; have o4 : w7.frozen? ⟨wr.heap.size, 4, none⟩ = false := X7.out.free 4; clear hb7))
            all_goals
              go_wp2
              go_meet
              first
                | exact ⟨wr.heap.size, rfl, rfl, HasR.five X7.out _ _ _ _ _, L7.out.trans ((stir5 w7 wr.heap.size _ _ _ _ _).below L7.out.size (fun j hj => by simp at hj; have := BB.out.size; omega))⟩
                | exact ⟨w7.heap.size, rfl, rfl, HasR.new w7 36 _, L7.out.alloc L7.out.size _⟩
          case rest =>
            clear f0 f1 f2 f3 f4 hgf LS1 LS2 VT1 VT2 HO21 HO22 ne3 ne4
            obtain ⟨be, rfl, hs17, hXE, hL3⟩ := hcut
            have L3 := hide hL3
            have XE := hide hXE
            have HS := hide hs17
            clear hL3 hXE hs17
            have hq := same_bytes e.s s
            go_upto_region 26 with fail
            go_cut [135] (fun s135 wx => s135 = .bool false ∧ Below w9.heap.size w9 wx ∧ HasR wx be 36 #[.int .i64 x.k, .string x.s, .string x.t, .string x.r, .string x.v])
            case first =>
              obtain ⟨o0, o1, o2, o3, o4, hgo⟩ := OC.out _ L3.out
              have sbx := SBX.out _ L3.out
              by_cases he : e.s = s
              · have q1 : (e.s.toList == s.toList) = true := by rw [hq]; exact decide_eq_true he
                by_cases hk : e.k = 3
                · have d3 : (e.k != 3) = false := by simp [bne, hk]
                  clear hq he hk
                  go_quiet (fail)
                  go_wp2
                  go_meet
                  exact ⟨rfl, below_dn L3.out _, XE.out.drewN _⟩
                · have d3 : (e.k != 3) = true := by simp [bne, hk]
                  have hl := HLS.out he
                  have he8 : er = .iface 56 (.int .i64 8) := by
                    rcases HX.out with ⟨_, _, _, h⟩ | ⟨hn, _, _⟩
                    · exact h
                    · exact absurd ⟨hk, hl⟩ hn
                  have hs17 := HS.out
                  rw [he8] at hs17
                  subst hs17
                  clear he8
                  have TA := hide (tell_arg 8 _ (TB.out _ L3.out.drew).e)
                  clear hq he hk hl
                  go_region_held3 (fun wx => wx.cell? ⟨go, j * 5, none⟩ = some (.int .i64 e.k) ∧ wx.cell? ⟨go, j * 5 + 1, none⟩ = some (.string e.s) ∧ wx.cell? ⟨w.heap.size, 0, none⟩ = some (.string s)) (first | (with_reducible exact K8.out) | go_keep)
                    ((go_at_call 23; (with_reducible refine TA.out.mono ?_); rintro y w8 ⟨rfl, hb8⟩; have L8 := hide (L3.out.drew.trans (hb8.mono L3.out.drew.size)); have X8 := hide (XE.out.drew.below hb8 XE.out.drew.lt); obtain ⟨y0, y1, y2, y3, y4, hgy⟩ := OC.out _ L8.out; have K8 := hide (And.intro y0 (And.intro y1 (SBX.out _ L8.out))); clear hb8))
                  all_goals
                    go_wp2
                    go_meet
                    exact ⟨rfl, L8.out, X8.out⟩
              · have q1 : (e.s.toList == s.toList) = false := by rw [hq]; exact decide_eq_false he
                clear hq he
                go_quiet (fail)
                go_wp2
                go_meet
                exact ⟨rfl, below_dn L3.out _, XE.out.drewN _⟩
            case rest =>
              clear L3 XE hq
              obtain ⟨rfl, hL4, hX4⟩ := hcut
              have L4 := hide hL4
              have X4 := hide hX4
              clear hL4 hX4
              obtain ⟨o0, o1, o2, o3, o4, hgo⟩ := OC.out _ L4.out
              have x0 : wc.cell? ⟨be, 0, none⟩ = some (.int .i64 x.k) := X4.out.cell 0
              have x1 : wc.cell? ⟨be, 1, none⟩ = some (.string x.s) := X4.out.cell 1
              have x2 : wc.cell? ⟨be, 2, none⟩ = some (.string x.t) := X4.out.cell 2
              have x3 : wc.cell? ⟨be, 3, none⟩ = some (.string x.r) := X4.out.cell 3
              have x4 : wc.cell? ⟨be, 4, none⟩ = some (.string x.v) := X4.out.cell 4
              rcases HX.out with ⟨hk3, hlo, rfl, rfl⟩ | ⟨hnl, rfl, rfl⟩
              · have hs17 := HS.out
                subst hs17
                have heq := errEq
                clear hk3 hlo
                go_upto_region 28 with fail
                go_quiet (fail)
                go_wp2
                exact ⟨⟨j + 1, by go_num, by omega, below_dn L4.out _⟩, by simp [intOf]; omega⟩
              · have hs17 := HS.out
                subst hs17
                have heq := nilEq
                have evq := fun w => ev_neq x.k x.s x.t x.r x.v w
                clear hnl
                go_upto_region 28 with fail
                go_quiet (fail)
                go_wp2
                exact ⟨⟨j + 1, by go_num, by omega, below_dn L4.out _⟩, by simp [intOf]; omega⟩
        · have ej : j = st.ok.length := by omega
          subst ej
          have S20 := hide (S9.out.still BB.out)
          have sbx := SBX.out _ BB.out
          have hT20 := TB.out _ BB.out
          have hbw := B9.out.trans (BB.out.mono B9.out.size)
          have BW := hide hbw
          have T20 := hide hT20
          have FD20 := hide (ownsRow_below FD.out BB.out)
          have E20 := hide (E9.out.below BB.out E9.out.lt)
          clear hbw hT20
          cases hd2 : doesB s2.σ s2.τ (newOf s)
          · have DO : Hid (Calls Tryz.prog 10 #[.pointer (some ⟨w3.heap.size + 2, 0, none⟩), .agg #[.int .i64 1, .string s, .string ⟨#[122, 122]⟩, .string ⟨#[122, 122]⟩, .string ⟨#[]⟩]] wr fun x w' => (∃ n : Int, x = .returned (.tuple #[.agg #[.int .i64 0, .string ⟨#[]⟩, .int .i64 0, .string ⟨#[]⟩, .string ⟨#[]⟩], .iface 56 (.int .i64 n)])) ∧ Below wr.heap.size wr w') :=
              hide ((do_no _ wr _ _ _ _ _ _ _ _ _ _ _ _ (newOf s) S20.out (new_brief2 hs60) (by decide) (by rw [HRL2.out]; omega) (by omega) (by omega) T20.out (by omega) hd2).mono (fun x w' h => ⟨h.1, h.2.2⟩))
            have HP := hide (new_no BH.out.named hd2)
            have hen := errNe
            clear hd2
            go_wp2_with (first
              | (go_at_call 10; (with_reducible refine DO.out.mono ?_); rintro x w21 ⟨⟨z, rfl⟩, hb⟩
                 have B21 := hide (hb.alloc hb.size (.cells #[.int .i64 0, .string ⟨#[]⟩, .int .i64 0, .string ⟨#[]⟩, .string ⟨#[]⟩] 30))
                 have SC := hide (srcCells_any _ _ _ _ _ _ _ _ _ _ _ _ _ _ (S20.out.still B21.out) (by omega))
                 clear hb)
              | (go_at_call 16; (with_reducible refine SC.out.mono ?_); rintro x w22 ⟨u, ds2, rfl, ho, hl, hr, hb⟩
                 have B22 := hide (B21.out.trans (hb.mono B21.out.size))
                 have CC := containsC _ u ds2 25 #[] (enters_of Tryz.func25 (by kernel_rfl) rfl) _ w22 hr (by omega) (fun W c hW => (gone3_any c W).mono fun _ _ ⟨he, h⟩ => ⟨he, hW.trans (h.mono hW.size)⟩)
                 rw [any_zz ho HP.out] at CC
                 have CH := hide CC
                 clear ho hr hb CC)
              | (go_at_call 24; (with_reducible refine CH.out.mono ?_); rintro x w23 ⟨rfl, hb⟩
                 have B23 := hide (B22.out.trans (hb.mono B22.out.size))
                 clear hb))
            go_ret
            exact ⟨rfl, BW.out.trans (B23.out.mono BW.out.size)⟩
          · have DO : Hid (Calls Tryz.prog 10 #[.pointer (some ⟨w3.heap.size + 2, 0, none⟩), .agg #[.int .i64 1, .string s, .string ⟨#[122, 122]⟩, .string ⟨#[122, 122]⟩, .string ⟨#[]⟩]] wr fun x w' => ∃ R : Rec, x = .returned (.tuple #[.agg #[.int .i64 (R.q : Int), .string R.s, .int .i64 (R.g : Int), .string R.p, .string R.d], .nilIface]) ∧ R.g = N + 1 ∧ Stirred (ownS (w3.heap.size + 2) (w3.heap.size + 1) w3.heap.size mt8 mv8 vv8) wr w' ∧ Below w3.heap.size wr w') :=
              hide ((do_yes _ wr _ _ _ _ _ _ _ _ _ _ _ _ (newOf s) S20.out (new_brief2 hs60) (by decide) (by rw [HRL2.out]; omega) (by omega) (by omega) T20.out (by omega) hd2).mono (fun x w' ⟨R, hR, hx, _, hst, hb⟩ => ⟨R, hx, by rw [hR]; exact new_gen BH.out.key BH.out.num, hst, hb⟩))
            have HNN := hide (none_new BH.out.old)
            have eg27 : ∀ args w, (callFunc 27 args).run Tryz.prog w = .ok (.enter 27 args) w := enters_of Tryz.func27 (by kernel_rfl) rfl
            clear hd2
            go_wp2_with (first
              | (go_at_call 10; (with_reducible refine DO.out.mono ?_); rintro x w21 ⟨R, rfl, hRg, hst, hb⟩
                 have Z := (Below.refl _ w21).alloc (Nat.le_refl _) (.cells #[.int .i64 (R.q : Int), .string R.s, .int .i64 (R.g : Int), .string R.p, .string R.d] 30)
                 have XR := hide (HasR.new w21 30 #[.int .i64 (R.q : Int), .string R.s, .int .i64 (R.g : Int), .string R.p, .string R.d])
                 have FD21 := hide (ownsRow_below (ownsRow_turned FD20.out hst (fun g hg hm => by have a1 := (FD20.out.lt g hg).1; have a2 := HOF.out g hm; omega)) Z)
                 have E21 := hide ((E20.out.below hb l3).alloc (.cells #[.int .i64 (R.q : Int), .string R.s, .int .i64 (R.g : Int), .string R.p, .string R.d] 30))
                 have B21 := hide ((BW.out.trans (hb.mono hB3)).trans (Z.mono (BW.out.trans (hb.mono hB3)).size))
                 have CC := containsR _ _ s2.rs 27 #[.pointer (some ⟨w.heap.size, 0, none⟩), .pointer (some ⟨w21.heap.size, 0, none⟩)] eg27 _ _ FD21.out hrs1 (fun W r hW => (gone4_any r w.heap.size w21.heap.size (N + 1) s W ((E21.out.below hW E21.out.lt).cell 0) (by have := (XR.out.below hW XR.out.lt).cell 2; rw [this, ← hRg]; rfl)).mono fun _ _ ⟨he, h⟩ => ⟨he, hW.trans (h.mono hW.size)⟩)
                 rw [HNN.out] at CC
                 have CH := hide CC
                 clear hst hb Z CC hRg)
              | (go_at_call 26; (with_reducible refine CH.out.mono ?_); rintro x w23 ⟨rfl, hb⟩
                 have B23 := hide (B21.out.trans (hb.mono B21.out.size))
                 clear hb))
            go_ret
            exact ⟨rfl, B23.out⟩
end Go.Proofs.YtkbaalenbpgheaaGreatDoor
