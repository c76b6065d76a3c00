/- Texts of this proof, one behind the other. -/
import Derived.Maps.AppendAt
import Derived.Laws.StructEq
import Derived.Test.YtkbaalenbpgheaaGreatDoorPart32
/- The document's own Subjects: all that have a key, in order. -/
namespace Go.Proofs.YtkbaalenbpgheaaGreatDoor
open Go.RowKit Go.Maps Go.Sort
attribute [local go_sem ↓] Go.wp_at_zero Go.wp_at_succ
theorem Tryz.info9' : (Tryz.prog.info? 9).map (fun i => (i.zero, i.size, i.bytes)) = some (some (.string ⟨#[]⟩), 1, 16) := by kernel_rfl
theorem invK : ∀ key kl, keyOf Tryz.prog 9 key = some kl → ∃ x, key = encStr x := fun key kl hk => by
  obtain ⟨x, hx, _⟩ := Maps.keyOf_str Tryz.underlying9 hk
  exact ⟨x, hx⟩
/-- A bool that the walk does not take apart. -/
structure Flag where
  is : Bool
def Flag.v (f : Flag) : Value := .bool f.is
theorem invB : ∀ v y, plainElem (H := Unit) Tryz.prog 4 v = some y → ∃ f : Flag, v = f.v := fun v y hv => by
  obtain ⟨x, rfl, _⟩ := boolElem_inv Tryz.underlying4 hv
  exact ⟨⟨x⟩, rfl⟩
end Go.Proofs.YtkbaalenbpgheaaGreatDoor

/- The program's own Subjects: all that have a key, in order. -/
namespace Go.Proofs.YtkbaalenbpgheaaGreatDoor
open Go.RowKit Go.Maps Go.Sort
attribute [local go_sem ↓] Go.wp_at_zero Go.wp_at_succ
set_option maxRecDepth 100000 in
set_option maxHeartbeats 1000000 in
theorem subjects_none (b : Nat) (sec : ByteArray) (w : World) (hr : HasR w b 101 #[.string sec, .map none]) :
    Calls Tryz.prog 21 #[.pointer (some ⟨b, 0, none⟩)] w fun e w' => e = .returned (.slice none 0 0) ∧ Below w.heap.size w w' := by
  have c1 : w.cell? ⟨b, 1, none⟩ = some (.map none) := hr.cell 1
  have hrg := run_range_nilMap (P := Tryz.prog) w 99 9 103 Tryz.underlying99
  have hnx : ∀ ty, (Instr.next (.pointer (some ⟨w.heap.size, 0, none⟩)) false ty).run Tryz.prog (w.alloc (.mapIter none 0 #[] 0)) = _ := fun ty => run_next_nilMap _ ty 0 0 #[]
  clear hr
  go_enter Tryz.func21, Tryz.ntmps21
  go_wp2
  refine wp_loop_rounds 1 ?_
  rw [rounds_succ]
  go_wp2_with (go_at_call 53; refine (sortS_none none 0 _).mono ?_; rintro e w' ⟨rfl, rfl⟩)
  go_ret
  exact ⟨rfl, (Below.refl _ _).alloc (Nat.le_refl _) _⟩
/-- A holding as the map has it. -/
structure Hold where
  n : Int
  k : ByteArray
def Hold.v (h : Hold) : Value := .agg #[.int .i64 h.n, .string h.k]
theorem invH : ∀ v y, holdElem v = some y → ∃ h : Hold, v = h.v := fun v y hv => by
  obtain ⟨n, s, rfl, _⟩ := holdElem_inv hv
  exact ⟨⟨n, s⟩, rfl⟩
theorem empty_of {k : ByteArray} (h : k.data.toList = []) : k = ByteArray.empty := by
  apply ByteArray.ext
  exact Array.toList_inj.1 h
set_option maxRecDepth 100000 in
set_option maxHeartbeats 1000000 in
theorem subjects_some (b m : Nat) (sec : ByteArray) (n : Nat) (σ : Kept) (w : World) (hn : n < 1000) (hV : ProgV w b (some m) sec n σ) :
    Calls Tryz.prog 21 #[.pointer (some ⟨b, 0, none⟩)] w fun e w' => ∃ v ts, e = .returned v ∧ InOrder σ ts ∧ ts.length ≤ 1000 ∧ w'.ownsRow w.heap.size 9 1 v ts.length (ts.map encStr) ∧ Below w.heap.size w w' := by
  obtain ⟨i0, hi0, hz0, hz1, hz2⟩ := info_parts Tryz.info9'
  have c1 : w.cell? ⟨b, 1, none⟩ = some (.map (some m)) := hV.row.cell 1
  obtain ⟨D, ho, hi⟩ := hV.held m rfl
  have hbl := ho.lt
  have hsz := ho.size_le
  have HI := hide hi
  clear hV hi
  go_enter Tryz.func21, Tryz.ntmps21
  go_wp2_with (first
    | (at_range; refine wpList_range_own _ rfl _ 99 rfl 9 103 law9 Tryz.underlying99 _ m n _ rfl ho ?_; intro w0 hrg0 hg0 hs0)
    | go_in)
  go_frame
  go_loopw [3] (fun v wr => ∃ (left : Lit → Bool) (cnt : Nat) (ss : List (List UInt8)), wr.ranges Tryz.prog 9 holdElem m w.heap.size n D left cnt ∧ ss.length + cnt ≤ Maps.size D ∧
      wr.ownsRow w.heap.size 9 1 v ss.length (ss.map encStr) ∧ Gathered σ left ss ∧ Below w.heap.size w wr)
    (fun _ wr => wr.rangeLeft m w.heap.size)
  case atStart =>
    exact ⟨_, _, [], hrg0, by simp, World.ownsRow_nil _ _ _ _, Gathered.start (HI.out.has (keyL_ne sec)), (Below.refl _ _).grown hg0 (Nat.le_refl _) (fun j hj => by cases hj)⟩
  case round =>
    obtain ⟨left, cnt, ss, hrg, hcs, hrow, hC, hnx⟩ := hrel
    go_wp2_with (first
      | (at_next; refine wpList_next_ranges _ rfl _ rfl 9 law9 holdElem encStr Hold.v invK invH m w.heap.size n _ _ _ rfl hrg ?_ ?_)
      | go_in)
    · -- nothing is left
      intro hc0 hl0
      have hord := hC.inOrder hl0
      rcases hrow.2 with ⟨rfl, h0⟩ | ⟨g, cap, cur, rfl, hbase, hb, h1, h2, h3, h4⟩
      · have hss : ss = [] := List.length_eq_zero_iff.1 h0
        subst hss
        go_wp2_with (go_at_call 53; refine (sortS_none none 0 _).mono ?_; rintro e w' ⟨rfl, rfl⟩)
        go_ret
        exact ⟨_, _, rfl, hord, by simp, by simpa using World.ownsRow_nil _ _ _ _, hnx⟩
      · have hH : Holds encStr wr g 0 ss.toArray := Go.holds_of_block hb (by simpa using h4)
        have hgl : g < wr.heap.size := (Array.getElem?_eq_some_iff.1 hb).1
        have hc := sortS_any g cap ss wr hH hgl (by omega)
        go_wp2_with (go_at_call 53; refine hc.mono ?_; rintro e w' ⟨rfl, nn, os, rfl⟩)
        go_ret
        refine ⟨_, _, rfl, hord, by rw [List.length_mergeSort]; omega, ?_, hnx.grown (grownBy_sorted _) hnx.size (fun j hj => by cases hj; exact hbase)⟩
        have := ownsRow_sorted (n := nn) (os := os) (ss := ss) (ts := ss.mergeSort fun x y => decide (x ≤ y)) (by simp) hbase hb h1 h2 h3
        rw [List.length_mergeSort]
        exact this
    · -- an entry has come
      intro x y kl yd yp w2 cnt2 hkey hlk hv hat hrg2 hlt hg2 hs2 hen
      obtain ⟨x', ex, rfl, _⟩ := Maps.keyOf_str Tryz.underlying9 hkey
      obtain rfl : x = x' := encStr_inj ex
      have hrow2 := hrow.kept hg2 (Or.inr (row_ne_iter hrow hrg).symm)
      obtain ⟨yn, yk⟩ := y
      have hy : yk.data.toList = keyOr (keyL sec) σ x := by
        have e2 := holdElem_mk yn yk
        have e3 : holdElem (.agg #[.int .i64 yn, .string yk]) = some (yd, yp) := hv
        rw [e2] at e3
        have h1 := HI.out.2 x
        rw [hat] at h1
        cases e3
        simp only [holdD, DataW.agg.injEq, List.cons.injEq, DataW.lit.injEq, Lit.int.injEq, Lit.string.injEq, and_true, true_and] at h1
        exact h1.2
      clear hs2 hv
      simp only [Hold.v] at hen ⊢
      cases hh : (σ x).2 with
      | true =>
        have d : yk.toList.isEmpty = false := by
          rw [ByteArray.toList_eq, List.isEmpty_eq_false_iff, hy]
          unfold keyOr
          rw [hh]
          exact keyL_ne _ _ _
        clear hy
        go_wp2_with (first
          | (at_builtin; refine wpList_append_own _ rfl _ _ 50 rfl w.heap.size 9 i0 (.string ⟨#[]⟩) 1 16 Tryz.underlying50 hi0 hz0 hz1 hz2 rfl (by decide) _ _ _ rfl ((hrow2.alloc _).alloc _) ⟨w2.heap.size + 1, 0, none⟩ 1 1 [encStr x] rfl rfl (by have h := cell_one_new (w2.alloc (.cells #[.int .i64 yn, .string yk] 103)) (encStr x) 9; simpa using h) (by simp [Value.oneCell', encStr]) (by unfold maxLen at *; omega) (by omega) (by have := hnx.size; have := hg2.size; simp; omega) ?_; intro v' w3 hown' hg3 hnil3; go_frame)
          | go_in)
        have hrg3 := ((hrg2.alloc _).alloc _).kept hg3 (row_ne_low hrow2 hbl) (row_ne_iter hrow2 hrg2)
        go_roundw
        case rel =>
          refine ⟨_, cnt2, ss ++ [x], hrg3, by simp; omega, by simpa using hown', hC.step_in hlk hh, ?_⟩
          exact (((hnx.grown hg2 hnx.size (fun j hj => by cases hj; exact Nat.le_refl _)).alloc (by have := hnx.size; have := hg2.size; omega) _).alloc (by have := hnx.size; have := hg2.size; simp; omega) _).grown hg3 (by have := hnx.size; have := hg2.size; simp; omega) (fun j hj => (hrow2.lt j hj).1)
        case measure => rw [hrg3.left_eq, hrg.left_eq]; exact hlt
      | false =>
        have d : yk = ByteArray.empty := empty_of (by rw [hy]; unfold keyOr; rw [hh]; rfl)
        subst d
        clear hy
        go_wp2
        go_roundw
        case rel => exact ⟨_, cnt2, ss, hrg2.alloc _, by omega, hrow2.alloc _, hC.step_out hh, (hnx.grown hg2 hnx.size (fun j hj => by cases hj; exact Nat.le_refl _)).alloc (by have := hnx.size; have := hg2.size; omega) _⟩
        case measure => rw [(hrg2.alloc _).left_eq, hrg.left_eq]; exact hlt
/-- Whatever the program's vault has. -/
theorem subjects_any (b : Nat) (mo : Option Nat) (sec : ByteArray) (n : Nat) (σ : Kept) (w : World) (hn : n < 1000) (hV : ProgV w b mo sec n σ) :
    Calls Tryz.prog 21 #[.pointer (some ⟨b, 0, none⟩)] w fun e w' => ∃ v ts, e = .returned v ∧ InOrder σ ts ∧ ts.length ≤ 1000 ∧ w'.ownsRow w.heap.size 9 1 v ts.length (ts.map encStr) ∧ Below w.heap.size w w' := by
  cases mo with
  | none =>
    have e0 := hV.none rfl
    subst e0
    exact (subjects_none b sec w hV.row).mono fun e w' ⟨he, hb⟩ => ⟨_, [], he, inOrder0, by simp, World.ownsRow_nil _ _ _ _, hb⟩
  | some m => exact subjects_some b m sec n σ w hn hV
end Go.Proofs.YtkbaalenbpgheaaGreatDoor

/- What was told is read: feed.Open of a source's own record; events held against each other; who is forgotten further on. -/
namespace Go.Proofs.YtkbaalenbpgheaaGreatDoor
open Go.RowKit Go.Sort
attribute [local go_sem ↓] Go.wp_at_zero Go.wp_at_succ
set_option linter.unusedSectionVars false
variable [Inhabited Cl] [Inhabited Ev]
theorem held35 : Tryz.prog.stoodInHeld 36 = false := by kernel_rfl
theorem fields35 : Tryz.prog.underlying 36 = some (.struct (Tryz.prog.fieldsOf 36)) := by kernel_rfl
theorem guard35 : Tryz.prog.eqGuardType Tryz.prog.depth 36 = false := by kernel_rfl
theorem ev_same (k : Int) (s t r v : ByteArray) (w : World) : (Op.equalIn 10000 36 (.agg #[.int .i64 k, .string s, .string t, .string r, .string v]) (.agg #[.int .i64 k, .string s, .string t, .string r, .string v])).run Tryz.prog w = .ok true w := by
  rw [run_equalIn_struct w 9999 36 _ _ fields35 held35]
  simp [Program.fieldsOf, Tryz.underlying36, Op.eqFields, go_sem, run_equalIn_int, run_equalIn_string, Tryz.underlying3, Tryz.underlying9]
theorem ev_neq (k : Int) (s t r v : ByteArray) (w : World) : (binOp .neq 36 (.agg #[.int .i64 k, .string s, .string t, .string r, .string v]) (.agg #[.int .i64 k, .string s, .string t, .string r, .string v])).run Tryz.prog w = .ok (.bool false) w := by
  rw [run_neq_struct, ev_same]; rfl
/-- A record of a key that is there, or an open one: what was told. -/
theorem open_held {B : Nat} {w : World} {sb fb vb : Nat} {mt mv : Option Nat} {v : Value} {nt nv : Nat} {sec : ByteArray} {σ : Kept} {τ : Tab} {rs : List Rec} (S : Src B w sb fb vb mt mv v nt nv sec σ τ rs) (T : Tabs w) {e : Ev} {r : Rec} {lost : Bool} (h : RecOf sec σ e r lost) (hf : Fit r) (hl : ¬ (e.k ≠ 3 ∧ lost = true)) :
    Calls Tryz.prog 22 #[.pointer (some ⟨vb, 0, none⟩), .agg #[.int .i64 (r.q : Int), .string r.s, .int .i64 (r.g : Int), .string r.p, .string r.d]] w fun x w' => x = .returned (.tuple #[.agg #[.int .i64 e.k, .string e.s, .string e.t, .string e.r, .string e.v], .nilIface]) ∧ Below w.heap.size w w' := by
  refine open_ok25 _ r e w h.right h.sub.symm h.gen.symm T.l (fun wx hb => T.m.below hb T.m.lt) (fun wx hb => ?_)
  by_cases hk : e.k = 3
  · have := unseal_open (.pointer (some ⟨vb, 0, none⟩)) r wx (h.gen.2 hk)
    rw [h.opn hk] at this
    rw [h.opn hk]
    exact this
  · have hlo : lost = false := by
      cases lost
      · rfl
      · exact absurd ⟨hk, rfl⟩ hl
    have ht := h.there hk hlo
    have hg : 1 ≤ r.g := Nat.pos_of_ne_zero (fun e0 => hk (h.gen.1 e0))
    exact unseal_there vb mv sec nv σ r (textB e) wx hf (S.still hb).keys hg (by rw [ht]) (by rw [ht]) (text_size h.right) (T.k.below hb T.k.lt) (h.sl hk)
/-- Of all others nothing. -/
theorem open_lost {B : Nat} {w : World} {sb fb vb : Nat} {mt mv : Option Nat} {v : Value} {nt nv : Nat} {sec : ByteArray} {σ : Kept} {τ : Tab} {rs : List Rec} (S : Src B w sb fb vb mt mv v nt nv sec σ τ rs) {e : Ev} {r : Rec} {lost : Bool} (h : RecOf sec σ e r lost) (hf : Fit r) (hk : e.k ≠ 3) (hl : lost = true) :
    Calls Tryz.prog 22 #[.pointer (some ⟨vb, 0, none⟩), .agg #[.int .i64 (r.q : Int), .string r.s, .int .i64 (r.g : Int), .string r.p, .string r.d]] w fun x w' => x = .returned (.tuple #[.agg #[.int .i64 0, .string ⟨#[]⟩, .string ⟨#[]⟩, .string ⟨#[]⟩, .string ⟨#[]⟩], .iface 56 (.int .i64 8)]) ∧ Below w.heap.size w w' := by
  obtain ⟨h1, h2⟩ := h.left hk hl
  have hg : 1 ≤ r.g := Nat.pos_of_ne_zero (fun e0 => hk (h.gen.1 e0))
  exact open_err _ r 8 ⟨#[]⟩ w (fun wx hb => unseal_lost vb mv sec nv σ r wx hf.s (S.still hb).keys hg h1 h2)
/-- Whichever of both: one answer. -/
theorem open_either {sec : ByteArray} {σ : Kept} {e : Ev} {r : Rec} {lost : Bool} (h : RecOf sec σ e r lost) (hf : Fit r) : ∃ (x : Ev) (er : Value), ((e.k ≠ 3 ∧ lost = true ∧ x = ⟨0, ⟨#[]⟩, ⟨#[]⟩, ⟨#[]⟩, ⟨#[]⟩⟩ ∧ er = .iface 56 (.int .i64 8)) ∨ (¬ (e.k ≠ 3 ∧ lost = true) ∧ x = e ∧ er = .nilIface)) ∧
    ∀ (B : Nat) (w : World) (sb fb vb : Nat) (mt mv : Option Nat) (v : Value) (nt nv : Nat) (τ : Tab) (rs : List Rec), Src B w sb fb vb mt mv v nt nv sec σ τ rs → Tabs w → Calls Tryz.prog 22 #[.pointer (some ⟨vb, 0, none⟩), .agg #[.int .i64 (r.q : Int), .string r.s, .int .i64 (r.g : Int), .string r.p, .string r.d]] w fun y w' => y = .returned (.tuple #[.agg #[.int .i64 x.k, .string x.s, .string x.t, .string x.r, .string x.v], er]) ∧ Below w.heap.size w w' := by
  by_cases hl : e.k ≠ 3 ∧ lost = true
  · exact ⟨_, _, .inl ⟨hl.1, hl.2, rfl, rfl⟩, fun B w sb fb vb mt mv v nt nv τ rs S _ => open_lost S h hf hl.1 hl.2⟩
  · exact ⟨e, .nilIface, .inr ⟨hl, rfl, rfl⟩, fun B w sb fb vb mt mv v nt nv τ rs S T => open_held S T h hf hl⟩
theorem evRow_of {w : World} {b : Nat} {v : Value} {es : List Ev} (h : w.ownsRow b 36 5 v es.length (evsL es)) : EvRow w v es := by
  rcases h.2 with ⟨e, e0⟩ | ⟨g, cap, cur, hv, hb, hg, a1, a2, a3, a4⟩
  · exact .inl ⟨⟨none, 0, e⟩, List.eq_nil_of_length_eq_zero e0⟩
  · refine .inr ⟨g, 0, cap, hv, a1, lt_of_block hg, fun j hj i u hu => ?_⟩
    have hi : i < 5 := (List.getElem?_eq_some_iff.1 hu).1
    have hj5 : j * 5 + i < es.length * 5 := by omega
    rw [Nat.zero_add, cell_of_row w g _ cur 36 (0, 0) hg, ← Array.getElem?_toList, ← List.getElem?_take_of_lt (j := es.length * 5) hj5, a4, evsL_at es j i hj hi, List.getD_eq_getElem?_getD, List.getElem?_eq_getElem hj]
    rw [getElem!_pos es j hj] at hu
    exact hu
theorem drop_at {es : List Ev} {m j : Nat} (h : m + j < es.length) : (es.drop m)[j]! = es[m + j]! := by
  rw [getElem!_pos es (m + j) h, getElem!_pos (es.drop m) j (by rw [List.length_drop]; omega), List.getElem_drop]
theorem EvRow.drop {w : World} {b off n cap : Nat} {es : List Ev} {m : Nat} {cap' : Nat} (h : EvRow w (.slice (some ⟨b, off, none⟩) n cap) es) (hm : m < es.length) (hc : es.length - m ≤ cap') : EvRow w (.slice (some ⟨b, off + m * 5, none⟩) (es.length - m) cap') (es.drop m) := by
  rcases h with ⟨_, rfl⟩ | ⟨b', off', cap2, hv, hc2, hb, hx⟩
  · simp at hm
  · simp only [Value.slice.injEq, Option.some.injEq, Addr.mk.injEq, and_true] at hv
    obtain ⟨⟨rfl, rfl⟩, _, _⟩ := hv
    refine .inr ⟨b, off + m * 5, cap', by rw [List.length_drop], by rw [List.length_drop]; exact hc, hb, fun j hj i u hu => ?_⟩
    rw [List.length_drop] at hj
    rw [drop_at (by omega)] at hu
    have := hx (m + j) (by omega) i u hu
    rw [← this]
    congr 2
    omega
theorem EvRow.tail {w : World} {b off cap : Nat} {es : List Ev} {m : Nat} (h : EvRow w (.slice (some ⟨b, off, none⟩) es.length cap) es) (hm : m ≤ es.length) (hc : es.length ≤ cap) : EvRow w (.slice (some ⟨b, off + m * 5, none⟩) (es.length - m) (cap - m)) (es.drop m) := by
  by_cases h0 : m < es.length
  · exact h.drop h0 (by omega)
  · have : m = es.length := by omega
    subst this
    exact .inl ⟨⟨_, _, by rw [Nat.sub_self]⟩, List.drop_length⟩
/-- A Gone of somebody. -/
def goneS (s : ByteArray) (x : Ev) : Bool := decide (x.k = 3) && decide (x.s = s)
theorem lostB_any (l : List Ev) (s : ByteArray) : l.any (goneS s) = lostB l s := rfl
end Go.Proofs.YtkbaalenbpgheaaGreatDoor
