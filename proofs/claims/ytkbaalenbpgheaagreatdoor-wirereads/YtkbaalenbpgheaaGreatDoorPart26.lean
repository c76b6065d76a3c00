/- Texts of this proof, one behind the other. -/
import Derived.Shelf.SlicesQ.IndexFunc
import Derived.Test.YtkbaalenbpgheaaGreatDoorPart25
/- A record's event, by a vault. -/
namespace Go.Proofs.YtkbaalenbpgheaaGreatDoor
open Go.RowKit
attribute [local go_sem ↓] Go.wp_at_zero Go.wp_at_succ
set_option maxRecDepth 100000 in
set_option maxHeartbeats 2000000 in
theorem open_err (pv : Value) (r : Rec) (n : Int) (t : ByteArray) (w : World) (hU : ∀ wx, Below w.heap.size w wx → Calls Tryz.prog 54 #[pv, .agg #[.int .i64 (r.q : Int), .string r.s, .int .i64 (r.g : Int), .string r.p, .string r.d]] wx fun x w' => x = .returned (.tuple #[.string t, .iface 56 (.int .i64 n)]) ∧ Below wx.heap.size wx w') :
    Calls Tryz.prog 22 #[pv, .agg #[.int .i64 (r.q : Int), .string r.s, .int .i64 (r.g : Int), .string r.p, .string r.d]] w fun x w' => x = .returned (.tuple #[.agg #[.int .i64 0, .string ⟨#[]⟩, .string ⟨#[]⟩, .string ⟨#[]⟩, .string ⟨#[]⟩], .iface 56 (.int .i64 n)]) ∧ Below w.heap.size w w' := by
  have bel : Below w.heap.size w ((w.alloc (.cells #[.int .i64 (r.q : Int), .string r.s, .int .i64 (r.g : Int), .string r.p, .string r.d] 30)).alloc (.cells #[.int .i64 0, .string ⟨#[]⟩, .string ⟨#[]⟩, .string ⟨#[]⟩, .string ⟨#[]⟩] 36)) := ((Below.refl _ w).alloc (Nat.le_refl _) _).alloc (by simp) _
  have U := hide (hU _ bel)
  have E4 := hide (HasR.new (w.alloc (.cells #[.int .i64 (r.q : Int), .string r.s, .int .i64 (r.g : Int), .string r.p, .string r.d] 30)) 36 #[.int .i64 0, .string ⟨#[]⟩, .string ⟨#[]⟩, .string ⟨#[]⟩, .string ⟨#[]⟩])
  rw [World.size_alloc] at E4
  have hne := errNe
  have BL := hide bel
  clear bel hU
  go_enter Tryz.func22, Tryz.ntmps22
  go_upto_region 3 with (go_at_call 54; (with_reducible refine U.out.mono ?_); rintro x w1 ⟨rfl, hb1⟩; have B1 := hide (BL.out.trans (hb1.mono BL.out.size)); have X4 := hide (E4.out.below hb1 E4.out.lt); clear hb1)
  have d0 : w1.cell? ⟨w.heap.size + 1, 0, none⟩ = some (.int .i64 0) := X4.out.cell 0
  have d1 : w1.cell? ⟨w.heap.size + 1, 1, none⟩ = some (.string ⟨#[]⟩) := X4.out.cell 1
  have d2 : w1.cell? ⟨w.heap.size + 1, 2, none⟩ = some (.string ⟨#[]⟩) := X4.out.cell 2
  have d3 : w1.cell? ⟨w.heap.size + 1, 3, none⟩ = some (.string ⟨#[]⟩) := X4.out.cell 3
  have d4 : w1.cell? ⟨w.heap.size + 1, 4, none⟩ = some (.string ⟨#[]⟩) := X4.out.cell 4
  have o0 : w1.frozen? ⟨w.heap.size + 1, 0, none⟩ = false := X4.out.free 0
  have o1 : w1.frozen? ⟨w.heap.size + 1, 1, none⟩ = false := X4.out.free 1
  have o2 : w1.frozen? ⟨w.heap.size + 1, 2, none⟩ = false := X4.out.free 2
  have o3 : w1.frozen? ⟨w.heap.size + 1, 3, none⟩ = false := X4.out.free 3
  have o4 : w1.frozen? ⟨w.heap.size + 1, 4, none⟩ = false := X4.out.free 4
  go_wp2
  have XF := HasR.five X4.out (.int .i64 0) (.string ⟨#[]⟩) (.string ⟨#[]⟩) (.string ⟨#[]⟩) (.string ⟨#[]⟩)
  have TF := stir5 w1 (w.heap.size + 1) (.int .i64 0) (.string ⟨#[]⟩) (.string ⟨#[]⟩) (.string ⟨#[]⟩) (.string ⟨#[]⟩)
  generalize ((((w1.setCell ⟨w.heap.size + 1, 0, none⟩ (.int .i64 0)).setCell ⟨w.heap.size + 1, 1, none⟩ (.string ⟨#[]⟩)).setCell ⟨w.heap.size + 1, 2, none⟩ (.string ⟨#[]⟩)).setCell ⟨w.heap.size + 1, 3, none⟩ (.string ⟨#[]⟩)).setCell ⟨w.heap.size + 1, 4, none⟩ (.string ⟨#[]⟩) = wf at XF TF ⊢
  have z0 : wf.cell? ⟨w.heap.size + 1, 0, none⟩ = some (.int .i64 0) := XF.cell 0
  have z1 : wf.cell? ⟨w.heap.size + 1, 1, none⟩ = some (.string ⟨#[]⟩) := XF.cell 1
  have z2 : wf.cell? ⟨w.heap.size + 1, 2, none⟩ = some (.string ⟨#[]⟩) := XF.cell 2
  have z3 : wf.cell? ⟨w.heap.size + 1, 3, none⟩ = some (.string ⟨#[]⟩) := XF.cell 3
  have z4 : wf.cell? ⟨w.heap.size + 1, 4, none⟩ = some (.string ⟨#[]⟩) := XF.cell 4
  refine bodyPost_ret (v := .tuple #[.agg #[.int .i64 0, .string ⟨#[]⟩, .string ⟨#[]⟩, .string ⟨#[]⟩, .string ⟨#[]⟩], .iface 56 (.int .i64 n)]) (by simp [results, Tryz.results22, go_sem, z0, z1, z2, z3, z4]) rfl ⟨rfl, B1.out.trans (TF.below B1.out.size (fun j hj => by simp at hj; omega))⟩
set_option maxRecDepth 100000 in
set_option maxHeartbeats 2000000 in
theorem open_ok25 (pv : Value) (r : Rec) (e : Ev) (w : World) (hr : rightB e = true) (hs : e.s = r.s) (hk : (e.k = 3) ↔ (r.g = 0)) (hL : TabL w) (hMb : ∀ wx, Below w.heap.size w wx → TabM wx) (hU : ∀ wx, Below w.heap.size w wx → Calls Tryz.prog 54 #[pv, .agg #[.int .i64 (r.q : Int), .string r.s, .int .i64 (r.g : Int), .string r.p, .string r.d]] wx fun x w' => x = .returned (.tuple #[.string (textB e), .nilIface]) ∧ Below wx.heap.size wx w') :
    Calls Tryz.prog 22 #[pv, .agg #[.int .i64 (r.q : Int), .string r.s, .int .i64 (r.g : Int), .string r.p, .string r.d]] w fun x w' => x = .returned (.tuple #[.agg #[.int .i64 e.k, .string e.s, .string e.t, .string e.r, .string e.v], .nilIface]) ∧ Below w.heap.size w w' := by
  have bel : Below w.heap.size w ((w.alloc (.cells #[.int .i64 (r.q : Int), .string r.s, .int .i64 (r.g : Int), .string r.p, .string r.d] 30)).alloc (.cells #[.int .i64 0, .string ⟨#[]⟩, .string ⟨#[]⟩, .string ⟨#[]⟩, .string ⟨#[]⟩] 36)) := ((Below.refl _ w).alloc (Nat.le_refl _) _).alloc (by simp) _
  have U := hide (hU _ bel)
  have hsp := split_text hr
  have PA := hide (fun wx (hb : Below w.heap.size w wx) => parse_ok (textB e) wx (Nat.le_trans (text_size hr) (by omega)) (by rw [hsp]; exact acc_text hr) (hL.below hb hL.lt) (hMb wx hb))
  rw [hsp] at PA
  have E3 := hide ((HasR.new w 30 #[.int .i64 (r.q : Int), .string r.s, .int .i64 (r.g : Int), .string r.p, .string r.d]).alloc (.cells #[.int .i64 0, .string ⟨#[]⟩, .string ⟨#[]⟩, .string ⟨#[]⟩, .string ⟨#[]⟩] 36))
  have E4 := hide (HasR.new (w.alloc (.cells #[.int .i64 (r.q : Int), .string r.s, .int .i64 (r.g : Int), .string r.p, .string r.d] 30)) 36 #[.int .i64 0, .string ⟨#[]⟩, .string ⟨#[]⟩, .string ⟨#[]⟩, .string ⟨#[]⟩])
  rw [World.size_alloc] at E4
  have hne := nilNe
  have q1 := same_bytes e.s r.s
  rw [decide_eq_true hs] at q1
  have HKI := hide hk
  have BL := hide bel
  clear bel hU hL hMb hsp hs hk
  go_enter Tryz.func22, Tryz.ntmps22
  go_upto_region 5 with (first
    | (go_at_call 54; (with_reducible refine U.out.mono ?_); rintro x w1 ⟨rfl, hb1⟩; have B1 := hide (BL.out.trans (hb1.mono BL.out.size)); have X3 := hide (E3.out.below hb1 E3.out.lt); have X4 := hide (E4.out.below hb1 E4.out.lt); clear hb1)
    | (go_at_call 55; (with_reducible refine (PA.out _ B1.out).mono ?_); rintro x w2 ⟨rfl, hb2⟩; have B2 := hide (B1.out.trans (hb2.mono B1.out.size)); have Y3 := hide (X3.out.below hb2 X3.out.lt); have Y4 := hide (X4.out.below hb2 X4.out.lt); clear hb2))
  have Z3 := hide (Y3.out.alloc (.cells #[.int .i64 e.k, .string e.s, .string e.t, .string e.r, .string e.v] 36))
  have Z4 := hide (Y4.out.alloc (.cells #[.int .i64 e.k, .string e.s, .string e.t, .string e.r, .string e.v] 36))
  have Z8 := hide (HasR.new w2 36 #[.int .i64 e.k, .string e.s, .string e.t, .string e.r, .string e.v])
  have B3 := hide (B2.out.alloc B2.out.size (.cells #[.int .i64 e.k, .string e.s, .string e.t, .string e.r, .string e.v] 36))
  generalize w2.alloc (.cells #[.int .i64 e.k, .string e.s, .string e.t, .string e.r, .string e.v] 36) = w3 at Z3 Z4 Z8 B3 ⊢
  have x0 : w3.cell? ⟨w2.heap.size, 0, none⟩ = some (.int .i64 e.k) := Z8.out.cell 0
  have x1 : w3.cell? ⟨w2.heap.size, 1, none⟩ = some (.string e.s) := Z8.out.cell 1
  have x2 : w3.cell? ⟨w2.heap.size, 2, none⟩ = some (.string e.t) := Z8.out.cell 2
  have x3 : w3.cell? ⟨w2.heap.size, 3, none⟩ = some (.string e.r) := Z8.out.cell 3
  have x4 : w3.cell? ⟨w2.heap.size, 4, none⟩ = some (.string e.v) := Z8.out.cell 4
  have r1 : w3.cell? ⟨w.heap.size, 1, none⟩ = some (.string r.s) := Z3.out.cell 1
  have r2 : w3.cell? ⟨w.heap.size, 2, none⟩ = some (.int .i64 (r.g : Int)) := Z3.out.cell 2
  obtain ⟨bb, h1, h2, h3, h4, h5⟩ : ∃ bb : Bool, (e.k == 3) = bb ∧ ((r.g : Int) == 0) = bb ∧ decide (e.k = 3) = bb ∧ decide ((r.g : Int) = 0) = bb ∧ decide (r.g = 0) = bb := by
    by_cases h : e.k = 3
    · have h' := HKI.out.1 h
      exact ⟨true, by simp [h], by simp [h'], by simp [h], by simp [h'], by simp [h']⟩
    · have h' : ¬ r.g = 0 := fun x => h (HKI.out.2 x)
      exact ⟨false, by simp [h], by simp [h'], by simp [h], by simp [h'], by simp [h']⟩
  clear HKI
  have d0 : w3.cell? ⟨w.heap.size + 1, 0, none⟩ = some (.int .i64 0) := Z4.out.cell 0
  have d1 : w3.cell? ⟨w.heap.size + 1, 1, none⟩ = some (.string ⟨#[]⟩) := Z4.out.cell 1
  have d2 : w3.cell? ⟨w.heap.size + 1, 2, none⟩ = some (.string ⟨#[]⟩) := Z4.out.cell 2
  have d3 : w3.cell? ⟨w.heap.size + 1, 3, none⟩ = some (.string ⟨#[]⟩) := Z4.out.cell 3
  have d4 : w3.cell? ⟨w.heap.size + 1, 4, none⟩ = some (.string ⟨#[]⟩) := Z4.out.cell 4
  have o0 : w3.frozen? ⟨w.heap.size + 1, 0, none⟩ = false := Z4.out.free 0
  have o1 : w3.frozen? ⟨w.heap.size + 1, 1, none⟩ = false := Z4.out.free 1
  have o2 : w3.frozen? ⟨w.heap.size + 1, 2, none⟩ = false := Z4.out.free 2
  have o3 : w3.frozen? ⟨w.heap.size + 1, 3, none⟩ = false := Z4.out.free 3
  have o4 : w3.frozen? ⟨w.heap.size + 1, 4, none⟩ = false := Z4.out.free 4
  go_wp2
  have XF := HasR.five Z4.out (.int .i64 e.k) (.string e.s) (.string e.t) (.string e.r) (.string e.v)
  have TF := stir5 w3 (w.heap.size + 1) (.int .i64 e.k) (.string e.s) (.string e.t) (.string e.r) (.string e.v)
  generalize ((((w3.setCell ⟨w.heap.size + 1, 0, none⟩ (.int .i64 e.k)).setCell ⟨w.heap.size + 1, 1, none⟩ (.string e.s)).setCell ⟨w.heap.size + 1, 2, none⟩ (.string e.t)).setCell ⟨w.heap.size + 1, 3, none⟩ (.string e.r)).setCell ⟨w.heap.size + 1, 4, none⟩ (.string e.v) = wf at XF TF ⊢
  have z0 : wf.cell? ⟨w.heap.size + 1, 0, none⟩ = some (.int .i64 e.k) := XF.cell 0
  have z1 : wf.cell? ⟨w.heap.size + 1, 1, none⟩ = some (.string e.s) := XF.cell 1
  have z2 : wf.cell? ⟨w.heap.size + 1, 2, none⟩ = some (.string e.t) := XF.cell 2
  have z3 : wf.cell? ⟨w.heap.size + 1, 3, none⟩ = some (.string e.r) := XF.cell 3
  have z4 : wf.cell? ⟨w.heap.size + 1, 4, none⟩ = some (.string e.v) := XF.cell 4
  refine bodyPost_ret (v := .tuple #[.agg #[.int .i64 e.k, .string e.s, .string e.t, .string e.r, .string e.v], .nilIface]) (by simp [results, Tryz.results22, go_sem, z0, z1, z2, z3, z4]) rfl ⟨rfl, B3.out.trans (TF.below B3.out.size (fun j hj => by simp at hj; omega))⟩
end Go.Proofs.YtkbaalenbpgheaaGreatDoor

/- Events in a row of memory, as a law is handed them; which are few, and short. -/
namespace Go.Proofs.YtkbaalenbpgheaaGreatDoor
open Go.RowKit Go.Sort
attribute [local go_sem ↓] Go.wp_at_zero Go.wp_at_succ
def ev0 : Ev := ⟨0, ByteArray.empty, ByteArray.empty, ByteArray.empty, ByteArray.empty⟩
set_option linter.unusedSectionVars false
variable [Inhabited Cl] [Inhabited Ev]
/-- The events lie in the row that a slice names. -/
def EvRow (w : World) (v : Value) (es : List Ev) : Prop :=
  ((∃ ao cap, v = .slice ao 0 cap) ∧ es = []) ∨ ∃ b off cap, v = .slice (some ⟨b, off, none⟩) es.length cap ∧ es.length ≤ cap ∧ b < w.heap.size ∧ ∀ j, j < es.length → ∀ i u, (evL es[j]!)[i]? = some u → w.cell? ⟨b, off + j * 5 + i, none⟩ = some u
theorem EvRow.turned {w w' : World} {v : Value} {es : List Ev} {B : Nat} (h : EvRow w v es) (k : Below B w w') (hB : w.heap.size ≤ B) : EvRow w' v es := by
  rcases h with h | ⟨b, off, cap, rfl, hc, hb, hx⟩
  · exact .inl h
  · exact .inr ⟨b, off, cap, rfl, hc, Nat.lt_of_lt_of_le hb k.size, fun j hj i u hu => (k.cell (p := ⟨b, off + j * 5 + i, none⟩) (Nat.lt_of_lt_of_le hb hB)).trans (hx j hj i u hu)⟩
theorem EvRow.stirred {w w' : World} {v : Value} {es : List Ev} {L : List Nat} (h : EvRow w v es) (k : Stirred L w w') (hL : ∀ b, v.ownBlock = some b → b ∉ L) : EvRow w' v es := by
  rcases h with h | ⟨b, off, cap, rfl, hc, hb, hx⟩
  · exact .inl h
  · exact .inr ⟨b, off, cap, rfl, hc, Nat.lt_of_lt_of_le hb k.size, fun j hj i u hu => (k.cell (p := ⟨b, off + j * 5 + i, none⟩) hb (hL b rfl)).trans (hx j hj i u hu)⟩
theorem EvRow.slice {w : World} {v : Value} {es : List Ev} (h : EvRow w v es) : ∃ ao cap, v = .slice ao es.length cap := by
  rcases h with ⟨⟨ao, cap, rfl⟩, rfl⟩ | ⟨b, off, cap, rfl, _⟩
  · exact ⟨_, _, rfl⟩
  · exact ⟨_, _, rfl⟩
theorem EvRow.spot {w : World} {ao : Option Addr} {n cap : Nat} {es : List Ev} {k : Nat} (h : EvRow w (.slice ao n cap) es) (hk : k < es.length) : ∃ b off, ao = some ⟨b, off, none⟩ ∧ es.length ≤ cap ∧ ∀ i u, (evL es[k]!)[i]? = some u → w.cell? ⟨b, off + k * 5 + i, none⟩ = some u := by
  rcases h with ⟨_, rfl⟩ | ⟨b, off, cap', hv, hc, hb, hx⟩
  · simp at hk
  · simp only [Value.slice.injEq] at hv
    exact ⟨b, off, hv.1, by rw [hv.2.2]; exact hc, hx k hk⟩
end Go.Proofs.YtkbaalenbpgheaaGreatDoor

/- Few events, and short ones: slices.ContainsFunc over events; the law's own few. -/
namespace Go.Proofs.YtkbaalenbpgheaaGreatDoor
open Go.RowKit Go.Sort Go.Shelf
attribute [local go_sem ↓] Go.wp_at_zero Go.wp_at_succ
set_option linter.unusedSectionVars false
def laysAnyEv_ren : Go.Shelf.Ren := ⟨fun | 8 => 11 | 6 => 49 | n => n, fun | 22 => 22 | 23 => 36 | 25 => 38 | 4 => 4 | 3 => 3 | 0 => 0 | n => n, fun | n => n⟩
theorem laysAnyEv : Go.Proofs.SlLaysH0.n8 Tryz.prog laysAnyEv_ren := {
  mixed := by kernel_rfl
  f6 := ⟨Tryz.f49.name, by decide, Tryz.func49.trans (congrArg some (by kernel_rfl))⟩
  f8 := ⟨Tryz.f11.name, by decide, Tryz.func11.trans (congrArg some (by kernel_rfl))⟩
  t0 := Tryz.underlying0
  a0 := Tryz.isAgg0
  z0 := Tryz.sizeOf0
  v0 := Tryz.zeroValue0
  t3 := Tryz.underlying3
  a3 := Tryz.isAgg3
  z3 := Tryz.sizeOf3
  v3 := Tryz.zeroValue3
  t4 := Tryz.underlying4
  a4 := Tryz.isAgg4
  z4 := Tryz.sizeOf4
  v4 := Tryz.zeroValue4
  t22 := Tryz.underlying22
  a22 := Tryz.isAgg22
  z22 := Tryz.sizeOf22
  v22 := Tryz.zeroValue22
  t25 := Tryz.underlying38
  a25 := Tryz.isAgg38
  z25 := Tryz.sizeOf38
  v25 := Tryz.zeroValue38 }
variable [Inhabited Cl] [Inhabited Ev]
theorem isAgg36 (w : World) : (isAgg 36).run Tryz.prog w = .ok true w := by kernel_rfl
theorem sizeOf36 (w : World) : (Go.sizeOf 36).run Tryz.prog w = .ok 5 w := by kernel_rfl
set_option maxRecDepth 100000 in
set_option maxHeartbeats 1000000 in
theorem indexNone (p : Option Addr) (c : Nat) (fv : Value) (w : World) : Calls Tryz.prog 49 #[.slice p 0 c, fv] w fun e w' => e = .returned (.int .i64 (-1)) ∧ w' = w := by
  go_enter Tryz.func49, Tryz.ntmps49
  go_wp2
  refine wp_loop_rounds 1 ?_
  rw [rounds_succ]
  go_wp2
  go_ret
  exact ⟨rfl, rfl⟩
set_option maxRecDepth 100000 in
set_option maxHeartbeats 1000000 in
theorem containsNone (p : Option Addr) (c : Nat) (fv : Value) (w : World) : Calls Tryz.prog 11 #[.slice p 0 c, fv] w fun e w' => e = .returned (.bool false) ∧ w' = w := by
  have I := hide (indexNone p c fv w)
  go_enter Tryz.func11, Tryz.ntmps11
  go_wp2_with (go_at_call 49; (with_reducible refine I.out.mono ?_); rintro e w1 ⟨rfl, rfl⟩)
  go_ret
  exact ⟨rfl, rfl⟩
/-- slices.ContainsFunc over events. -/
theorem containsEv (v : Value) (es : List Ev) (g : Nat) (lb : Array Value) (eg : ∀ args w, (callFunc g args).run Tryz.prog w = .ok (.enter g args) w) (p : Ev → Bool) (w : World) (hv : EvRow w v es) (hl : es.length ≤ 1000)
    (hp : PredBelow Tryz.prog g lb (fun x => .agg (evL x).toArray) p w) :
    Calls Tryz.prog 11 #[v, .func (.func g) #[] lb] w fun e w' => e = .returned (.bool (es.any p)) ∧ Below w.heap.size w w' := by
  rcases hv with ⟨⟨ao, cap, rfl⟩, rfl⟩ | ⟨b, off, cap, rfl, hc, hb, hx⟩
  · exact (containsNone ao cap _ w).mono fun e w' ⟨he, hw⟩ => ⟨he, by rw [hw]; exact Below.refl _ _⟩
  · have h := AnyQ.slices_ContainsFunc (ρ := laysAnyEv_ren) laysAnyEv 5 isAgg36 sizeOf36 evL (fun _ => rfl) p g lb eg b off es.length cap es w hp (Nat.le_refl _) (by omega) hb hx
    rw [List.take_length] at h
    exact h
/-- An event that is too long for the laws. -/
def bigB (e : Ev) : Bool := decide (40 < e.s.size) || (decide (40 < e.t.size) || (decide (40 < e.r.size) || decide (60 < e.v.size)))
set_option maxRecDepth 100000 in
set_option maxHeartbeats 2000000 in
theorem big_any (e : Ev) (W : World) : Calls Tryz.prog 39 #[.agg #[.int .i64 e.k, .string e.s, .string e.t, .string e.r, .string e.v]] W fun x w' => x = .returned (.bool (bigB e)) ∧ Below W.heap.size W w' := by
  unfold bigB
  by_cases h1 : 40 < e.s.size
  · have d1 : decide ((40 : Int) < e.s.size) = true := by simp; omega
    go_enter Tryz.func39, Tryz.ntmps39
    go_wp2
    go_ret
    exact ⟨ret_val (by simp [h1]), (Below.refl _ W).alloc (Nat.le_refl _) _⟩
  · have d1 : decide ((40 : Int) < e.s.size) = false := by simp; omega
    by_cases h2 : 40 < e.t.size
    · have d2 : decide ((40 : Int) < e.t.size) = true := by simp; omega
      go_enter Tryz.func39, Tryz.ntmps39
      go_wp2
      go_ret
      exact ⟨ret_val (by simp [h2]), (Below.refl _ W).alloc (Nat.le_refl _) _⟩
    · have d2 : decide ((40 : Int) < e.t.size) = false := by simp; omega
      by_cases h3 : 40 < e.r.size
      · have d3 : decide ((40 : Int) < e.r.size) = true := by simp; omega
        go_enter Tryz.func39, Tryz.ntmps39
        go_wp2
        go_ret
        exact ⟨ret_val (by simp [h3]), (Below.refl _ W).alloc (Nat.le_refl _) _⟩
      · have d3 : decide ((40 : Int) < e.r.size) = false := by simp; omega
        go_enter Tryz.func39, Tryz.ntmps39
        go_wp2
        go_ret
        exact ⟨ret_val (by simp [h1, h2, h3]; omega), (Below.refl _ W).alloc (Nat.le_refl _) _⟩
theorem big_pred (w : World) : PredBelow Tryz.prog 39 #[] (fun x => .agg (evL x).toArray) bigB w := fun W x hb =>
  (big_any x W).mono fun _ _ ⟨he, h⟩ => ⟨he, hb.trans (h.mono hb.size)⟩
def fewB (es : List Ev) : Bool := decide (es.length ≤ 30) && !es.any bigB
set_option maxRecDepth 100000 in
set_option maxHeartbeats 1000000 in
theorem few_any (v : Value) (es : List Ev) (w : World) (hv : EvRow w v es) : Calls Tryz.prog 6 #[v] w fun x w' => x = .returned (.bool (fewB es)) ∧ Below w.heap.size w w' := by
  unfold fewB
  by_cases h1 : es.length ≤ 30
  · have C := hide (containsEv v es 39 #[] (enters_of Tryz.func39 (by kernel_rfl) rfl) bigB w hv (by omega) (big_pred w))
    obtain ⟨ao, cap, rfl⟩ := hv.slice
    have d1 : decide ((es.length : Int) ≤ 30) = true := by simp; omega
    clear hv
    generalize es.any bigB = b at C ⊢
    go_enter Tryz.func6, Tryz.ntmps6
    go_wp2_with (go_at_call 11; (with_reducible refine C.out.mono ?_); rintro x w1 ⟨rfl, hb⟩)
    go_ret
    exact ⟨ret_val (by simp [h1]), hb⟩
  · obtain ⟨ao, cap, rfl⟩ := hv.slice
    have d1 : decide ((es.length : Int) ≤ 30) = false := by simp; omega
    clear hv
    go_enter Tryz.func6, Tryz.ntmps6
    go_wp2
    go_ret
    exact ⟨ret_val (by simp [h1]), Below.refl _ _⟩
theorem few_brief {es : List Ev} (h : fewB es = true) : es.length ≤ 30 ∧ ∀ e ∈ es, Brief e := by
  unfold fewB at h
  simp only [Bool.and_eq_true, decide_eq_true_eq, Bool.not_eq_true', List.any_eq_false] at h
  refine ⟨h.1, fun e he => ?_⟩
  have := h.2 e he
  unfold bigB at this
  simp at this
  exact ⟨by omega, by omega, by omega, by omega⟩
end Go.Proofs.YtkbaalenbpgheaaGreatDoor
