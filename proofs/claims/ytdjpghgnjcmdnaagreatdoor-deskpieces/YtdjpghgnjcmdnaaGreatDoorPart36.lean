/- Texts of this proof, one behind the other. -/
import Derived.Deep.RegionHeld3
import Derived.Deep.DeepCutAuto
import Derived.Test.YtdjpghgnjcmdnaaGreatDoorPart35
/- The order 'cells'. -/
namespace Go.Proofs.YtdjpghgnjcmdnaaGreatDoor
open Go.RowKit Go.Shelf Go.Sort Go.Maps
set_option linter.unusedSectionVars false
variable [Inhabited LowT]
variable [Inhabited Cl] [Inhabited Ev]
attribute [local go_sem ↓] Go.wp_at_zero Go.wp_at_succ
theorem words_size {ds : List Cl} (h : ∀ c ∈ ds, rightB (evOfC c) = true) : ∀ p ∈ ds.map wordC, p.size ≤ 60 := fun p hp => by
  obtain ⟨c, hc, rfl⟩ := List.mem_map.1 hp
  exact wordC_size (h c hc)
theorem words_told (ds : List Cl) : (ds.map rowL).map textL = ds.map wordC := by
  rw [List.map_map]
  rfl
set_option maxRecDepth 100000 in
set_option maxHeartbeats 2000000 in
theorem cmd_cells : CmdOk 16 (arOf 0) := by
  intro db s w x v xs z hD hc hV hP hsz har hz
  obtain ⟨κ, B, ob, sb, fb, vb, mt, mv, vf, rm, ρ, c3, c4, c5, c6, h⟩ := hD
  obtain ⟨hP1, p, cp, rfl, hcp⟩ := hP
  have hx := (size_words hsz).1
  have X0 := hide (HasR.new w 65 #[.string x, .slice p xs.length cp, .int .i64 z])
  have B0 := hide ((Below.refl w.heap.size w).alloc (Nat.le_refl _) (.cells #[.string x, .slice p xs.length cp, .int .i64 z] 65))
  obtain ⟨W, hW⟩ : ∃ W, w.alloc (.cells #[.string x, .slice p xs.length cp, .int .i64 z] 65) = W := ⟨_, rfl⟩
  rw [hW] at X0 B0
  have HW := hide hW
  have HD := hide (h.still B0.out)
  have h11 := hV.n
  have _hk11 := lowK_le
  have HV := hide (hV.low (B0.out.mono h11) B0.out.size)
  have hlS : s.h.ok.length ≤ 100 := h.good.len
  have C45 := hide (srcCells_any B W.drew sb fb vb mt mv vf s.h.ok.length s.h.ok.length s.sec s.h.σ s.h.τ s.h.rs (HD.out.src.still ((Below.refl _ W).drew)) (by omega))
  have KB : Hid (∀ wx, Below W.heap.size W wx → wx.cell? ⟨w.heap.size, 0, none⟩ = some (.string x) ∧ wx.cell? ⟨db, 1, none⟩ = some (.pointer (some ⟨sb, 0, none⟩))) := hide fun wx hb => ⟨(X0.out.below hb X0.out.lt).cell 0, (HD.out.still hb).desk.cell 1⟩
  have k0 := (KB.out W (Below.refl _ _)).1
  have k1 := (KB.out W (Below.refl _ _)).2
  have HH := hide h
  have HRW := hide (Did.rows h.good.did)
  clear h hW hP1 hsz har
  go_enter Tryz.func16, Tryz.ntmps16
  go_upto_region 1 with fail
  rw [HW.out]
  go_region_held3 (fun wx => wx.cell? ⟨w.heap.size, 0, none⟩ = some (.string x) ∧ wx.cell? ⟨db, 1, none⟩ = some (.pointer (some ⟨sb, 0, none⟩))) (first | (with_reducible exact K2.out) | (with_reducible exact K3.out) | (with_reducible exact K4.out) | go_keep)
    (first
    | (go_at_call 45; (with_reducible refine C45.out.mono ?_); rintro y w2 ⟨u, ds, rfl, ho, hl, hr, hb⟩; obtain ⟨p2, cp2, rfl⟩ := hr.len; have B2 := hide (below_of_drew hb); have K2 := hide (KB.out w2 B2.out); have hrr : ∀ c ∈ ds, rightB (evOfC c) = true := (fun c hc => HRW.out c.t c.r c.s c.v ((ho.2 c).1 hc)); have HRR := hide hrr; have HO := hide ho; have C44 := hide (written_any w2 p2 cp2 _ ds hr hrr (by omega) (HV.out.m.below B2.out (by have := B0.out.size; omega))); have hl2 : ds.length ≤ 100 := (by omega); clear hr hb hrr ho hl)
    | (go_at_call 44; (with_reducible refine C44.out.mono ?_); rintro y w3 ⟨u3, rfl, hp3, hb3⟩; have B3 := hide (B2.out.trans (hb3.mono B2.out.size)); have K3 := hide (KB.out w3 B3.out); have C12 := hide (tell_any x u3 (ds.map wordC) w3 hp3 (by simp; omega) (told_fits (words_size HRR.out) hx (by simp; omega))); clear hb3 hp3)
    | (go_at_call 12; (with_reducible refine C12.out.mono ?_); rintro y w4 ⟨rfl, hb4⟩; have B4 := hide (B3.out.trans (hb4.mono B3.out.size)); have K4 := hide (KB.out w4 B4.out); clear hb4))
  go_wp2
  go_ret
  have bT : Below w.heap.size w w4 := B0.out.trans (B4.out.mono B0.out.size)
  refine ⟨toldR x (ds.map rowL) s, .inr (.inr (.inl ⟨rfl, ds, HO.out, rfl⟩)), .inr ⟨_, _, rfl, ?_, ?_, HH.out.same bT⟩, Quiet.of_below bT h11⟩
  · rw [words_told]
    rfl
  · rw [words_told]
    have := told_fits (words_size HRR.out) hx (by simp; omega) (x := x)
    omega
end Go.Proofs.YtdjpghgnjcmdnaaGreatDoor

/- Rows in order, as the program makes them: in a block of cells' own type. -/
namespace Go.Proofs.YtdjpghgnjcmdnaaGreatDoor
open Go.RowKit Go.Maps Go.Sort
attribute [local go_sem ↓] Go.wp_at_zero Go.wp_at_succ
set_option linter.unusedSectionVars false
variable [Inhabited Cl] [Inhabited Ev]
/-- A slice's block is one of cells. -/
def RowT (w : World) (v : Value) : Prop := ∀ g, v.ownBlock = some g → ∃ cs, HasR w g 129 cs
theorem RowT.below {w w' : World} {v : Value} (h : RowT w v) (k : Below w.heap.size w w') : RowT w' v := fun g hg => by
  obtain ⟨cs, hc⟩ := h g hg
  exact ⟨cs, hc.below k hc.lt⟩
theorem RowT.of_owns {w : World} {base n : Nat} {v : Value} {l : List Value} (h : w.ownsRow base 129 4 v n l) : RowT w v := fun _ hg => ownsRow_has h hg
theorem typ_sort {w : World} {g n : Nat} {d : Array Cl} {os : Array Obj} {cs : Array Value} (h : HasR w g 129 cs) : ∃ cs', HasR (sortWorldK cellL 4 w g 0 n d os) g 129 cs' := by
  have hlt := h.lt
  have hs : (putRowK cellL 4 (Sort.ahead w n) g 0 d).heap.size = w.heap.size := by simp [putRowK, putRow, mapBlock, Sort.ahead]
  have hw : w.heap[g]? = some (.cells cs 129 (0, 0)) := h
  refine ⟨putCells id 0 (flatK cellL 4 d) cs, ?_⟩
  show (sortWorldK cellL 4 w g 0 n d os).heap[g]? = some (.cells (putCells id 0 (flatK cellL 4 d) cs) 129 (0, 0))
  unfold sortWorldK
  rw [heap_grow_old _ _ (by rw [hs]; exact hlt)]
  show ((Sort.ahead w n).heap.modify g _)[g]? = _
  rw [Array.getElem?_modify, if_pos rfl]
  show Option.map _ w.heap[g]? = _
  rw [hw]
  rfl

set_option maxRecDepth 100000 in
set_option maxHeartbeats 2000000 in
theorem sort_typ (base : Nat) (v : Value) (cs : List Cl) (σ : Tab) (w : World) (hr : RowC w base v cs) (ha : AllOf σ cs) (hl : cs.length ≤ 1000) (hty : RowT w v) :
    Calls Tryz.prog 160 #[v, .func (.func 89) #[] #[]] w fun e w' => e = .returned (.tuple #[]) ∧ ∃ ds, InOrd σ ds ∧ ds.length = cs.length ∧ RowC w' base v ds ∧ Below base w w' ∧ RowT w' v := by
  rcases hr with ⟨rfl, rfl⟩ | ⟨g, cap, rfl, hb, hg, h1, h2, h3⟩
  · refine (AnyF.slices_SortFunc_none (ρ := laysSort_ren) laysSort none 0 (.func (.func 89) #[] #[]) w).mono ?_
    rintro e w' ⟨rfl, rfl⟩
    exact ⟨rfl, [], inOrd_short ha.2 (by simp), rfl, .inl ⟨rfl, rfl⟩, Below.refl _ _, hty⟩
  · have eg : ∀ args w, (callFunc 89 args).run Tryz.prog w = .ok (.enter 89 args) w := enters_of Tryz.func89 (by kernel_rfl) rfl
    have hcon := AnyQ.slices_SortFunc (ρ := laysSort_ren) laysSort 4 isAgg42 sizeOf42 cellL (fun _ => rfl) cellL_one cmpC (by rw [ltOf_cmpC]; exact swo_ltC) 89 #[] g 0 cap cs.toArray w eg (cmpLays g 0 _ w) h3 hg (by rw [List.size_toArray]; omega)
    rw [ltOf_cmpC, List.size_toArray] at hcon
    refine hcon.mono ?_
    rintro e w' ⟨rfl, d', n, os, hp, hs, rfl⟩
    have hsz : d'.size = cs.length := by have := hp.1; simpa using this
    have hlen : d'.toList.length = cs.length := by simpa using hsz
    refine ⟨rfl, d'.toList, inOrd_of_sorted ha.1 ha.2 (by simpa using hp) (by simpa using hs), hlen, .inr ⟨g, cap, by rw [hlen], hb, ?_, by rw [hlen]; exact h1, h2, ?_⟩, below_sortWorld hb hg, fun g2 hg2 => by
      have e : g = g2 := by simpa [Value.ownBlock] using hg2
      subst e
      obtain ⟨cur, hcur⟩ := hty g rfl
      exact typ_sort hcur⟩
    · have := (below_sortWorld (w := w) (n := n) (d := d') (os := os) (Nat.le_refl g) hg).size
      omega
    · have h5 : HoldsK cellL 4 (putRowK cellL 4 (Sort.ahead w n) g 0 d') g 0 d' := holdsK_putRowK cellL 4 (Sort.ahead w n) g 0 cs.toArray d' (holdsK_ahead _ _ _ _ _ _ _ h3) (by rw [List.size_toArray]; exact hsz)
      have h6 := holdsK_grow cellL 4 (putRowK cellL 4 (Sort.ahead w n) g 0 d') os g 0 d' (by simp [putRowK, putRow, mapBlock, Sort.ahead]; exact hg) h5
      simpa [sortWorldK] using h6
set_option maxRecDepth 100000 in
set_option maxHeartbeats 2000000 in
theorem sorted_typ (b : Nat) (ty : TypeId) (pre : Array Value) (mo : Option Nat) (n : Nat) (σ : Tab) (w : World) (hn : n ≤ 1000) (hV : TabV w b ty pre mo n σ) :
    Calls Tryz.prog 123 #[.func (.func 161) #[] #[.pointer (some ⟨w.heap.size, 0, none⟩)], .func (.func 89) #[] #[]] (w.alloc (.cells #[.map mo] 108)) fun e w' => ∃ v ds, e = .returned v ∧ InOrd σ ds ∧ ds.length ≤ n ∧ RowC w' (w.heap.size + 1) v ds ∧ RowT w' v ∧ Below (w.heap.size + 1) (w.alloc (.cells #[.map mo] 108)) w' := by
  obtain ⟨N, hN, hseq⟩ := seq_any b ty pre mo n σ w hV
  have C := hide (callsIn_wide.1 (collect_in Fence.wide 3 trivial trivial rfl (by omega) 161 #[.pointer (some ⟨w.heap.size, 0, none⟩)] trivial (enters_of Tryz.func161 (by kernel_rfl) rfl) _ N (by omega) (w.alloc (.cells #[.map mo] 108)) hseq))
  have hs : (w.alloc (.cells #[.map mo] 108)).heap.size = w.heap.size + 1 := by simp
  rw [hs] at C
  generalize w.alloc (.cells #[.map mo] 108) = W at C hs hseq ⊢
  clear hseq hV hs
  go_enter Tryz.func123, Tryz.ntmps123
  go_wp2_with (first
    | (go_at_call 159; (with_reducible refine C.out.mono ?_); rintro e w1 ⟨v, cs, rfl, ⟨ha, hl⟩, hrow, hnil, hb1⟩
       have S := hide (sort_typ (w.heap.size + 1) v cs σ w1 (RowC.of_owns hrow) ha (by omega) (RowT.of_owns hrow)))
    | (go_at_call 160; (with_reducible refine S.out.mono ?_); rintro e w2 ⟨rfl, ds, ho, hn2, hr, hb2, hty⟩))
  go_ret
  exact ⟨v, ds, rfl, ho, by omega, hr, hty, hb1.trans hb2⟩
set_option maxRecDepth 100000 in
set_option maxHeartbeats 2000000 in
theorem cells_typ (b : Nat) (ty : TypeId) (pre : Array Value) (mo : Option Nat) (n : Nat) (σ : Tab) (w : World) (hn : n ≤ 1000) (hV : TabV w b ty pre mo n σ) :
    Calls Tryz.prog 81 #[.pointer (some ⟨b, pre.size, none⟩)] w fun e w' => ∃ v ds, e = .returned v ∧ InOrd σ ds ∧ ds.length ≤ n ∧ RowC w' w.heap.size v ds ∧ RowT w' v ∧ Below w.heap.size w w' := by
  have hq := ptr_nil b pre.size
  have c1 : w.cell? ⟨b, pre.size, none⟩ = some (.map mo) := hV.cell
  have K := hide (callsIn_wide.1 (values_in Fence.wide 1 trivial rfl mo w))
  have S := hide (sorted_typ b ty pre mo n σ w hn hV)
  have bel : Below w.heap.size w (w.alloc (.cells #[.map mo] 108)) := (Below.refl _ w).alloc (Nat.le_refl _) _
  clear hV
  go_enter Tryz.func81, Tryz.ntmps81
  go_wp2_with (first
    | (go_at_call 124; (with_reducible refine K.out.mono ?_); rintro e w1 ⟨rfl, rfl⟩)
    | (go_at_call 123; (with_reducible refine S.out.mono ?_); rintro e w2 ⟨v, ds, rfl, ho, hn2, hr, hty, hb2⟩))
  go_ret
  exact ⟨v, ds, rfl, ho, hn2, hr.mono (by omega), hty, bel.trans (hb2.mono (by omega))⟩
set_option maxRecDepth 100000 in
set_option maxHeartbeats 2000000 in
theorem rdCells_typ (w : World) (rb vb read lost : Nat) (mark : ByteArray) (mt : Option Nat) (nt : Nat) (τ : Tab) (h : TabV w rb 133 #[.pointer (some ⟨vb, 0, none⟩), .int .i64 (read : Int), .string mark, .int .i64 (lost : Int)] mt nt τ) (hn : nt ≤ 1000) :
    Calls Tryz.prog 51 #[.pointer (some ⟨rb, 0, none⟩)] w fun x w' => ∃ u ds, x = .returned u ∧ InOrd τ ds ∧ ds.length ≤ nt ∧ RowC w' w.heap.size u ds ∧ RowT w' u ∧ Below w.heap.size w w' := by
  have hq := ptrR_nil rb
  have C0 := cells_typ rb 133 #[.pointer (some ⟨vb, 0, none⟩), .int .i64 (read : Int), .string mark, .int .i64 (lost : Int)] mt nt τ w hn h
  rw [show (#[.pointer (some ⟨vb, 0, none⟩), .int .i64 (read : Int), .string mark, .int .i64 (lost : Int)] : Array Value).size = 4 from rfl] at C0
  have C := hide C0
  clear C0
  clear h
  go_enter Tryz.func51, Tryz.ntmps51
  go_wp2_with (go_at_call 81; (with_reducible refine C.out.mono ?_); rintro x w1 ⟨u, ds, rfl, ho, hl, hr, hty, hb⟩)
  go_ret
  exact ⟨u, ds, rfl, ho, hl, hr, hty, hb⟩
set_option maxRecDepth 100000 in
set_option maxHeartbeats 2000000 in
theorem save_typ (w : World) (rb vb read lost : Nat) (mark : ByteArray) (mt : Option Nat) (nt : Nat) (τ : Tab) (h : TabV w rb 133 #[.pointer (some ⟨vb, 0, none⟩), .int .i64 (read : Int), .string mark, .int .i64 (lost : Int)] mt nt τ) (hn : nt ≤ 1000) :
    Calls Tryz.prog 53 #[.pointer (some ⟨rb, 0, none⟩)] w fun x w' => ∃ u ds, x = .returned (.agg #[.int .i64 (read : Int), .string (markAt read mark), u, .int .i64 (lost : Int)]) ∧ InOrd τ ds ∧ ds.length ≤ nt ∧ RowC w' w.heap.size u ds ∧ RowT w' u ∧ Below w.heap.size w w' := by
  have bel : Below w.heap.size w (w.alloc (.cells #[.int .i64 0, .string ⟨#[]⟩, .slice none 0 0, .int .i64 0] 32)) := (Below.refl _ w).alloc (Nat.le_refl _) _
  have E0 := hide (HasR.new w 32 #[.int .i64 0, .string ⟨#[]⟩, .slice none 0 0, .int .i64 0])
  have BL := hide bel
  have HT := hide h
  have AT := hide (at_any _ rb vb read lost mark mt nt τ (h.below bel))
  clear h bel
  go_enter Tryz.func53, Tryz.ntmps53
  go_wp2_with (first
    | (go_at_call 50; (with_reducible refine AT.out.mono ?_); rintro y w1 ⟨rfl, hb1⟩
       have B1 := hide (BL.out.trans (hb1.mono BL.out.size))
       have E1 := hide (E0.out.below hb1 E0.out.lt)
       have C1 := hide (rdCells_typ w1 rb vb read lost mark mt nt τ (HT.out.below B1.out) hn)
       clear hb1)
    | (go_at_call 51; (with_reducible refine C1.out.mono ?_); rintro y w2 ⟨u, ds, rfl, ho, hl, hr, hty, hb2⟩
       obtain ⟨p, c, rfl⟩ := hr.len
       have B2 := hide (B1.out.trans (hb2.mono B1.out.size))
       have E2 := hide (E1.out.below hb2 E1.out.lt)
       have L2 := hide (lost_any w2 rb vb read lost mark mt nt τ (HT.out.below B2.out))
       have R2 := hide hr
       have TY := hide hty
       have hw1 := E1.out.lt
       have e0 : w2.cell? ⟨w.heap.size, 0, none⟩ = some (.int .i64 0) := E2.out.cell 0
       have e1 : w2.cell? ⟨w.heap.size, 1, none⟩ = some (.string ⟨#[]⟩) := E2.out.cell 1
       have e2 : w2.cell? ⟨w.heap.size, 2, none⟩ = some (.slice none 0 0) := E2.out.cell 2
       have e3 : w2.cell? ⟨w.heap.size, 3, none⟩ = some (.int .i64 0) := E2.out.cell 3
       have q0 : w2.frozen? ⟨w.heap.size, 0, none⟩ = false := E2.out.free 0
       have q1 : w2.frozen? ⟨w.heap.size, 1, none⟩ = false := E2.out.free 1
       have q2 : w2.frozen? ⟨w.heap.size, 2, none⟩ = false := E2.out.free 2
       have q3 : w2.frozen? ⟨w.heap.size, 3, none⟩ = false := E2.out.free 3
       clear hr hty hb2)
    | (go_at_call 52; (with_reducible refine L2.out.mono ?_); rintro y w3 ⟨rfl, hw3⟩; obtain rfl := hw3.symm))
  exact bodyPost_ret (v := .agg #[.int .i64 (read : Int), .string (markAt read mark), .slice p ds.length c, .int .i64 (lost : Int)]) (results_cell_row Tryz.results53 _ _ w.heap.size 32 #[.int .i64 (read : Int), .string (markAt read mark), .slice p ds.length c, .int .i64 (lost : Int)] (0, 0) _ rfl (HasR.four4 E2.out _ _ _ _) Tryz.underlying32 rfl (by kernel_rfl)) rfl ⟨_, ds, rfl, ho, hl, (R2.out.turned (stirF w2 w.heap.size _ _ _ _) (fun j hj => by simp at hj; omega)).mono (by omega), fun g hg => (TY.out g hg).elim fun cs hcs => ⟨cs, hcs.turned (stirF w2 w.heap.size _ _ _ _) (by have := hcs.apartT E2.out (by decide); simpa using this)⟩, B2.out.trans ((stirF w2 w.heap.size _ _ _ _).below B2.out.size (fun j hj => by simp at hj; omega))⟩
end Go.Proofs.YtdjpghgnjcmdnaaGreatDoor

/- The order 'lost'. -/
namespace Go.Proofs.YtdjpghgnjcmdnaaGreatDoor
open Go.RowKit Go.Shelf Go.Sort Go.Maps
set_option linter.unusedSectionVars false
variable [Inhabited LowT]
variable [Inhabited Cl] [Inhabited Ev]
attribute [local go_sem ↓] Go.wp_at_zero Go.wp_at_succ
/-- One word told behind. -/
theorem tell_one (x : ByteArray) (l : List UInt8) (w : World) (hx : x.size ≤ 30000) (hl : l.length ≤ 1000000) : Calls Tryz.prog 12 #[.string x, .slice (some ⟨w.heap.size, 0, none⟩) 1 1] (w.alloc (.cells #[.string (textL l)] 9)) fun e w' => e = .returned (.string (textL (toldL x [textL l]))) ∧ Below w.heap.size w w' :=
  have b1 : Below w.heap.size w (w.alloc (.cells #[.string (textL l)] 9)) := (Below.refl _ w).alloc (Nat.le_refl _) _
  (tell_any x _ [textL l] _ (parts_one w.heap.size (textL l) (HasR.new w 9 _)) (by simp) (told_fits (m := 1000000) (fun p hp => by
    have e : p = textL l := by simpa using hp
    rw [e]
    exact hl) hx (by simp))).mono fun _ _ ⟨he, hb⟩ => ⟨he, b1.trans (hb.mono b1.size)⟩
theorem told_one {x : ByteArray} {l : List UInt8} (hx : x.size ≤ 30000) (hl : l.length ≤ 1000000) : (toldL x [textL l]).length ≤ 1000000000 := by
  have h1 := told_fits (x := x) (ps := [textL l]) (m := 1000000) (fun p hp => by
    have e : p = textL l := by simpa using hp
    rw [e]
    exact hl) hx (by simp)
  omega
set_option maxRecDepth 100000 in
set_option maxHeartbeats 4000000 in
theorem cmd_lost : CmdOk 19 (arOf 1) := by
  intro db s w x v xs z hD hc hV hP hsz har hz
  obtain ⟨κ, B, ob, sb, fb, vb, mt, mv, vf, rm, ρ, c3, c4, c5, c6, h⟩ := hD
  obtain ⟨hP1, p, cp, rfl, hcp⟩ := hP
  have hx := (size_words hsz).1
  have hlen : xs.length = 1 := har 1 rfl
  obtain ⟨g, off, rfl, hg, hw0⟩ := firstW hP1 (by omega)
  have hxz : (at_ xs 0).size ≤ 30000 := at_size (size_words hsz).2
  obtain ⟨x0, hx0⟩ : ∃ x0, at_ xs 0 = x0 := ⟨_, rfl⟩
  rw [hx0] at hw0 hxz
  have HX0 := hide hx0
  clear hx0
  rw [hlen]
  have X0 := hide (HasR.new w 65 #[.string x, .slice (some ⟨g, off, none⟩) 1 cp, .int .i64 z])
  have B0 := hide ((Below.refl w.heap.size w).alloc (Nat.le_refl _) (.cells #[.string x, .slice (some ⟨g, off, none⟩) 1 cp, .int .i64 z] 65))
  obtain ⟨W, hW⟩ : ∃ W, w.alloc (.cells #[.string x, .slice (some ⟨g, off, none⟩) 1 cp, .int .i64 z] 65) = W := ⟨_, rfl⟩
  rw [hW] at X0 B0
  have HW := hide hW
  have HD := hide (h.still B0.out)
  have h11 := hV.n
  have _hk11 := lowK_le
  have HV := hide (hV.low (B0.out.mono h11) B0.out.size)
  have hlS : s.h.ok.length ≤ 100 := h.good.len
  have nX : Hid (w.heap.size ∉ [rm]) := hide (h.rm_old (Nat.le_refl _))
  have nG : Hid (g ∉ [rm]) := hide (h.rm_cell hw0)
  have nD : Hid (db ∉ [rm]) := hide (h.rm_ne (by rw [h.kD]; simp))
  have gW : W.cell? ⟨g, off, none⟩ = some (.string x0) := (World.cell?_of_block (B0.out.block g hg)).trans hw0
  have lW : g < W.heap.size := Nat.lt_of_lt_of_le hg B0.out.size
  have KB : Hid (∀ wx, Stirred [rm] W wx → wx.cell? ⟨w.heap.size, 0, none⟩ = some (.string x) ∧ wx.cell? ⟨w.heap.size, 1, none⟩ = some (.slice (some ⟨g, off, none⟩) 1 cp) ∧ wx.cell? ⟨w.heap.size, 2, none⟩ = some (.int .i64 z) ∧ wx.cell? ⟨g, off, none⟩ = some (.string x0)) := hide fun wx t =>
    have X := X0.out.turned t nX.out
    ⟨X.cell 0, X.cell 1, X.cell 2, (t.cell (p := ⟨g, off, none⟩) lW nG.out).trans gW⟩
  obtain ⟨k0, k1, k2, k3⟩ := KB.out W (Stirred.refl _ _)
  have KD : Hid (∀ wx, Stirred [rm] W wx → wx.cell? ⟨db, 0, none⟩ = some (.map (some ob)) ∧ wx.cell? ⟨db, 1, none⟩ = some (.pointer (some ⟨sb, 0, none⟩)) ∧ wx.cell? ⟨db, 2, none⟩ = some (.map (some rm))) := hide fun wx t =>
    have X := HD.out.desk.turned t nD.out
    ⟨X.cell 0, X.cell 1, X.cell 2⟩
  obtain ⟨j0, j1, j2⟩ := KD.out W (Stirred.refl _ _)
  have HH := hide h
  have VB : Hid (∀ wx, Stirred [rm] W wx → Vars wx) := hide fun wx t => HV.out.low (t.below HV.out.n (fun j hj => by
    have e : j = rm := by simpa using hj
    rw [e]
    exact HD.out.low DeskV.rmOwned)) t.size
  clear h hW hP1 hsz har hw0
  have C46 := hide (named_any (HD.out.still (Below.refl _ W).drew) x0 (by omega) hc (show lowK ≤ W.drew.heap.size from HV.out.n))
  go_enter Tryz.func19, Tryz.ntmps19
  go_upto_region 1 with fail
  rw [HW.out]
  go_region_held3 (fun wx => wx.cell? ⟨w.heap.size, 0, none⟩ = some (.string x) ∧ wx.cell? ⟨w.heap.size, 1, none⟩ = some (.slice (some ⟨g, off, none⟩) 1 cp) ∧ wx.cell? ⟨w.heap.size, 2, none⟩ = some (.int .i64 z) ∧ wx.cell? ⟨g, off, none⟩ = some (.string x0)) (first | (with_reducible exact K2.out) | (with_reducible exact K3.out) | (with_reducible exact K4.out) | (with_reducible exact K5.out) | (with_reducible exact K9.out) | go_keep)
    (first
    | (go_at_call 46; (with_reducible refine C46.out.mono ?_); rintro y w2 ⟨rb, m, κ2, ρ2, rfl, hd2, hρ2, t2⟩; obtain ⟨n2, hn2, hT2⟩ := hd2.tab hρ2; have D2 := hide hd2; have T2 := hide (((Stirred.of_below (Below.refl _ W).drew [rm])).andThen t2 (fun j hj => .inl hj)); have TT2 := hide hT2; have G2 := hide (hd2.good.rd _ _ (show (setR s x0 (getR s x0)).rd x0 = some (getR s x0) by unfold setR; simp)); have K2 := hide (KB.out w2 T2.out); have V2 := hide (VB.out w2 T2.out); have hq2 : (getR s x0).lost ≤ 100 := Nat.le_trans (Nat.le_trans G2.out.lost G2.out.q) hlS; have C52 := hide (lost_any w2 rb vb _ _ _ m n2 _ hT2); have C13 := hide (itoaN_any (getR s x0).lost (by omega) w2 V2.out.p); clear hd2 t2 hT2)
    | (go_at_call 52; (with_reducible refine C52.out.mono ?_); rintro y w3 ⟨rfl, hw⟩; obtain rfl := hw.symm)
    | (go_at_call 13; (with_reducible refine C13.out.mono ?_); rintro y w4 ⟨rfl, hb4⟩; have B4 := hide hb4; have T4 := hide (T2.out.then_below hb4); have K4 := hide (KB.out w4 T4.out); have K9 := hide (KB.out (w4.alloc (.cells #[.string (textL (itoaN (getR s x0).lost))] 9)) (T4.out.then_below ((Below.refl _ w4).alloc (Nat.le_refl _) _))); have C12 := hide (tell_one x (itoaN (getR s x0).lost) w4 hx (Nat.le_trans (itoaN_le _ (by omega)) (by omega))); clear hb4)
    | (go_at_call 12; (with_reducible refine C12.out.mono ?_); rintro y w5 ⟨rfl, hb5⟩; have B5 := hide (B4.out.trans (hb5.mono B4.out.size)); have T5 := hide (T4.out.then_below hb5); have K5 := hide (KB.out w5 T5.out); clear hb5))
  go_wp2
  go_ret
  have q : Quiet w w5 := (Quiet.of_below B0.out h11).trans (HD.out.quietM T5.out HV.out.n)
  refine ⟨toldR x [itoaN (getR s (at_ xs 0)).lost] (setR s (at_ xs 0) (getR s (at_ xs 0))), ?_, .inr ⟨_, _, rfl, ?_, ?_, ?_⟩, q⟩
  · exact .inr (.inr (.inr (.inr (.inr (.inl ⟨rfl, rfl⟩)))))
  · rw [HX0.out]
    rfl
  · rw [HX0.out]
    exact told_one hx (Nat.le_trans (itoaN_le _ (by omega)) (by omega))
  · rw [HX0.out]
    exact D2.out.same B5.out
end Go.Proofs.YtdjpghgnjcmdnaaGreatDoor

/- The order 'sum'; words put together. -/
namespace Go.Proofs.YtdjpghgnjcmdnaaGreatDoor
open Go.RowKit Go.Shelf Go.Sort Go.Maps
set_option linter.unusedSectionVars false
variable [Inhabited LowT]
variable [Inhabited Cl] [Inhabited Ev]
attribute [local go_sem ↓] Go.wp_at_zero Go.wp_at_succ
/-- Words with a blank between. -/
theorem join_words {w : World} {p : Option Addr} {xs : List ByteArray} {cp : Nat} (h : Parts w (.slice p xs.length cp) xs) (hcp : xs.length ≤ cp) (hl : (Lib.join (xs.map (·.data.toList)) [32]).length ≤ 1000000) (hn : xs.length ≤ 100000) :
    Calls Tryz.prog 38 #[.slice p xs.length cp, .string ⟨#[32]⟩] w fun e w' => e = .returned (.string (textL (Lib.join (xs.map (·.data.toList)) [32]))) ∧ Below w.heap.size w w' := by
  obtain ⟨ao, cap, e, hP⟩ := h
  cases e
  rcases hP with rfl | ⟨g, off, rfl, hg, hc⟩
  · exact (Any.strings_Join_none dLays156 dExtra156 p cp ⟨#[32]⟩ w).mono fun _ _ ⟨he, hw⟩ => ⟨he, hw ▸ Below.refl _ _⟩
  · exact Any.strings_Join dLays156 dExtra156 g off cp xs ⟨#[32]⟩ w (fun j x hj => by
      have hlt := (List.getElem?_eq_some_iff.1 hj).1
      rw [hc j hlt, List.getD_eq_getElem?_getD, hj]
      rfl) hg (by omega) hcp (Nat.le_trans hl (by omega))
theorem join_len (xs : List ByteArray) : (Lib.join (xs.map (·.data.toList)) [32]).length ≤ (xs.map fun y => y.size + 1).sum := by
  induction xs with
  | nil => simp [Lib.join]
  | cons a l ih =>
    cases l with
    | nil => simp [Lib.join]
    | cons b l =>
      have h4 : (Lib.join ((a :: b :: l).map (·.data.toList)) [32]).length = a.size + 1 + (Lib.join ((b :: l).map (·.data.toList)) [32]).length := by
        simp [Lib.join]
        try omega
      have h5 : ((a :: b :: l).map fun y => y.size + 1).sum = a.size + 1 + ((b :: l).map fun y => y.size + 1).sum := by simp
      rw [h4, h5]
      omega
theorem line_len {x : ByteArray} {xs : List ByteArray} (h : ((x :: xs).map fun y => y.size + 1).sum ≤ 30001) : (Lib.join (xs.map (·.data.toList)) [32]).length ≤ 30000 := by
  have h1 := join_len xs
  simp only [List.map_cons, List.sum_cons] at h
  omega
theorem hexL_len (l : List UInt8) : (hexL l).length = 2 * l.length := by
  induction l with
  | nil => rfl
  | cons a l ih =>
    show (hexL [a] ++ hexL l).length = _
    rw [List.length_append, ih]
    show 2 + _ = _
    rw [List.length_cons]
    omega
theorem sha_len (l : List UInt8) : (sha l).length = 32 := by
  unfold sha
  exact stTo_len _ 8 (by omega)
theorem sum_text (l : List UInt8) (hl : l.length ≤ 800000) (w : World) (hK : TabK w) : Calls Tryz.prog 63 #[.string (textL l)] w fun e w' => e = .returned (.string (textL (sha l))) ∧ Below w.heap.size w w' := sum_any (textL l) hl w hK
theorem hex_text (l : List UInt8) (w : World) (hl : l.length ≤ 100000) : Calls Tryz.prog 57 #[.string (textL l)] w fun e w' => e = .returned (.string (textL (hexL l))) ∧ Below w.heap.size w w' := hex_any (textL l) w hl
set_option maxRecDepth 100000 in
set_option maxHeartbeats 4000000 in
theorem cmd_sum : CmdOk 26 (arOf (-1)) := by
  intro db s w x v xs z hD hc hV hP hsz har hz
  obtain ⟨κ, B, ob, sb, fb, vb, mt, mv, vf, rm, ρ, c3, c4, c5, c6, h⟩ := hD
  obtain ⟨hP1, p, cp, rfl, hcp⟩ := hP
  have hx := (size_words hsz).1
  have X0 := hide (HasR.new w 65 #[.string x, .slice p xs.length cp, .int .i64 z])
  have B0 := hide ((Below.refl w.heap.size w).alloc (Nat.le_refl _) (.cells #[.string x, .slice p xs.length cp, .int .i64 z] 65))
  obtain ⟨W, hW⟩ : ∃ W, w.alloc (.cells #[.string x, .slice p xs.length cp, .int .i64 z] 65) = W := ⟨_, rfl⟩
  rw [hW] at X0 B0
  have HW := hide hW
  have HD := hide (h.still B0.out)
  have h11 := hV.n
  have _hk11 := lowK_le
  have HV := hide (hV.low (B0.out.mono h11) B0.out.size)
  have hlS : s.h.ok.length ≤ 100 := h.good.len
  have hrl : s.h.rs.length = s.h.ok.length := h.good.did.both
  have VB : Hid (∀ wx, Below W.heap.size W wx → Vars wx) := hide fun wx hb => HV.out.low (hb.mono HV.out.n) hb.size
  have KB : Hid (∀ wx, Below W.heap.size W wx → wx.cell? ⟨w.heap.size, 0, none⟩ = some (.string x) ∧ wx.cell? ⟨w.heap.size, 1, none⟩ = some (.slice p xs.length cp) ∧ wx.cell? ⟨w.heap.size, 2, none⟩ = some (.int .i64 z) ∧ wx.cell? ⟨db, 1, none⟩ = some (.pointer (some ⟨sb, 0, none⟩))) := hide fun wx hb =>
    have X := X0.out.below hb X0.out.lt
    ⟨X.cell 0, X.cell 1, X.cell 2, (HD.out.still hb).desk.cell 1⟩
  obtain ⟨k0, k1, k2, k3⟩ := KB.out W (Below.refl _ _)
  have HH := hide h
  have HP := hide hP1
  have LW : Hid (Parts W (.slice p xs.length cp) xs) := hide (hP1.below B0.out rfl)
  clear h hW hP1
  have hjl := line_len hsz
  have hxl := len_words hsz
  have C38 := hide (join_words (LW.out.below (Below.refl W.heap.size W).drew rfl) hcp (by omega) (by omega))
  obtain ⟨jl, hj⟩ : ∃ jl, Lib.join (xs.map (·.data.toList)) [32] = jl := ⟨_, rfl⟩
  rw [hj] at C38 hjl
  have HJ := hide hj
  clear hj hsz
  have C63 := hide (fun wx (hb : Below W.heap.size W wx) => sum_text jl (by omega) wx (VB.out wx hb).k)
  have hsl := sha_len jl
  have C57 := hide (fun wx => hex_text (sha jl) wx (by omega))
  have hhl := hexL_len (sha jl)
  go_enter Tryz.func26, Tryz.ntmps26
  go_upto_region 1 with fail
  rw [HW.out]
  go_region_held3 (fun wx => wx.cell? ⟨w.heap.size, 0, none⟩ = some (.string x) ∧ wx.cell? ⟨w.heap.size, 1, none⟩ = some (.slice p xs.length cp) ∧ wx.cell? ⟨w.heap.size, 2, none⟩ = some (.int .i64 z) ∧ wx.cell? ⟨db, 1, none⟩ = some (.pointer (some ⟨sb, 0, none⟩))) (first | (with_reducible exact K2.out) | (with_reducible exact K3.out) | (with_reducible exact K4.out) | (with_reducible exact K5.out) | (with_reducible exact K9.out) | go_keep)
    (first
    | (go_at_call 38; (with_reducible refine C38.out.mono ?_); rintro y w2 ⟨rfl, hb2⟩; have B2 := hide (below_of_drew hb2); have K2 := hide (KB.out w2 B2.out); clear hb2)
    | (go_at_call 63; (with_reducible refine (C63.out _ B2.out).mono ?_); rintro y w3 ⟨rfl, hb3⟩; have B3 := hide (B2.out.trans (hb3.mono B2.out.size)); have K3 := hide (KB.out w3 B3.out); clear hb3)
    | (go_at_call 57; (with_reducible refine (C57.out _).mono ?_); rintro y w4 ⟨rfl, hb4⟩; have B4 := hide (B3.out.trans (hb4.mono B3.out.size)); have K4 := hide (KB.out w4 B4.out); have K9 := hide (KB.out (w4.alloc (.cells #[.string (textL (hexL (sha jl)))] 9)) (B4.out.alloc B4.out.size _)); have C12 := hide (tell_one x (hexL (sha jl)) w4 hx (by omega)); clear hb4)
    | (go_at_call 12; (with_reducible refine C12.out.mono ?_); rintro y w5 ⟨rfl, hb5⟩; have B5 := hide (B4.out.trans (hb5.mono B4.out.size)); have K5 := hide (KB.out w5 B5.out); clear hb5))
  go_wp2
  go_ret
  have bT : Below w.heap.size w w5 := B0.out.trans (B5.out.mono B0.out.size)
  refine ⟨toldR x [hexL (sha jl)] s, .inr (.inr (.inr (.inr (.inr (.inr (.inr (.inr (.inr (.inr (.inr (.inr (.inl ⟨rfl, by rw [HJ.out]⟩)))))))))))), .inr ⟨_, _, rfl, rfl, told_one hx (by omega), HH.out.same bT⟩, Quiet.of_below bT h11⟩
end Go.Proofs.YtdjpghgnjcmdnaaGreatDoor
