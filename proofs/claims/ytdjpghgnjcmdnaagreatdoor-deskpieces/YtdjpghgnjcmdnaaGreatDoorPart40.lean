/- Texts of this proof, one behind the other. -/
import Derived.Shelf.Sort.Plain
import Derived.Shelf.Slices.In.SortNone
import Derived.Shelf.Slices.In.SortNone2
import Derived.Maps.AppendAt
import Derived.Deep.RegionHeld3
import Derived.Deep.DeepCutAuto
import Derived.Test.YtdjpghgnjcmdnaaGreatDoorPart39
/- The library's own sorts at this program: the tables of numbers, and what they come to. -/
namespace Go.Proofs.YtdjpghgnjcmdnaaGreatDoor
open Go.RowKit Go.Shelf Go.Sort
def laysSortS_ren : Go.Shelf.Ren := ⟨fun | 190 => 93 | 125 => 133 | 258 => 132 | 128 => 181 | 129 => 144 | 302 => 172 | 303 => 173 | 304 => 174 | 305 => 175 | 306 => 176 | 307 => 177 | 308 => 178 | 309 => 179 | 310 => 180 | 333 => 214 | 329 => 215 | 330 => 216 | 334 => 217 | 335 => 218 | 336 => 219 | 344 => 237 | n => n, fun | 31 => 61 | 9 => 9 | 3 => 3 | 46 => 139 | 0 => 0 | 51 => 149 | 53 => 114 | 4 => 4 | 183 => 236 | 182 => 235 | 131 => 240 | 5 => 5 | 218 => 285 | 222 => 289 | 228 => 305 | 229 => 306 | n => n, fun | n => n⟩
theorem laysSortS : Go.Proofs.Lays.n190 Tryz.prog laysSortS_ren := {
  mixed := by kernel_rfl
  f125 := Tryz.func133.trans (congrArg some (by kernel_rfl))
  f128 := Tryz.func181.trans (congrArg some (by kernel_rfl))
  f129 := Tryz.func144.trans (congrArg some (by kernel_rfl))
  f190 := Tryz.func93.trans (congrArg some (by kernel_rfl))
  f258 := Tryz.func132.trans (congrArg some (by kernel_rfl))
  f302 := Tryz.func172.trans (congrArg some (by kernel_rfl))
  f303 := Tryz.func173.trans (congrArg some (by kernel_rfl))
  f304 := Tryz.func174.trans (congrArg some (by kernel_rfl))
  f305 := Tryz.func175.trans (congrArg some (by kernel_rfl))
  f306 := Tryz.func176.trans (congrArg some (by kernel_rfl))
  f307 := Tryz.func177.trans (congrArg some (by kernel_rfl))
  f308 := Tryz.func178.trans (congrArg some (by kernel_rfl))
  f309 := Tryz.func179.trans (congrArg some (by kernel_rfl))
  f310 := Tryz.func180.trans (congrArg some (by kernel_rfl))
  f329 := Tryz.func215.trans (congrArg some (by kernel_rfl))
  f330 := Tryz.func216.trans (congrArg some (by kernel_rfl))
  f333 := Tryz.func214.trans (congrArg some (by kernel_rfl))
  f334 := Tryz.func217.trans (congrArg some (by kernel_rfl))
  f335 := Tryz.func218.trans (congrArg some (by kernel_rfl))
  f336 := Tryz.func219.trans (congrArg some (by kernel_rfl))
  f344 := Tryz.func237.trans (congrArg some (by kernel_rfl))
  t0 := Tryz.underlying0
  a0 := Tryz.isAgg0
  z0 := Tryz.sizeOf0
  v0 := Tryz.zeroValue0
  t3 := Tryz.underlying3
  a3 := Tryz.isAgg3
  z3 := Tryz.sizeOf3
  v3 := Tryz.zeroValue3
  t4 := Tryz.underlying4
  a4 := Tryz.isAgg4
  z4 := Tryz.sizeOf4
  v4 := Tryz.zeroValue4
  t5 := Tryz.underlying5
  a5 := Tryz.isAgg5
  z5 := Tryz.sizeOf5
  v5 := Tryz.zeroValue5
  t9 := Tryz.underlying9
  a9 := Tryz.isAgg9
  z9 := Tryz.sizeOf9
  v9 := Tryz.zeroValue9
  t31 := Tryz.underlying61
  a31 := Tryz.isAgg61
  z31 := Tryz.sizeOf61
  v31 := Tryz.zeroValue61
  t46 := Tryz.underlying139
  a46 := Tryz.isAgg139
  z46 := Tryz.sizeOf139
  v46 := Tryz.zeroValue139
  t51 := Tryz.underlying149
  a51 := Tryz.isAgg149
  z51 := Tryz.sizeOf149
  v51 := Tryz.zeroValue149
  t53 := Tryz.underlying114
  a53 := Tryz.isAgg114
  z53 := Tryz.sizeOf114
  v53 := Tryz.zeroValue114
  t131 := Tryz.underlying240
  a131 := Tryz.isAgg240
  z131 := Tryz.sizeOf240
  v131 := Tryz.zeroValue240
  t182 := Tryz.underlying235
  a182 := Tryz.isAgg235
  z182 := Tryz.sizeOf235
  v182 := Tryz.zeroValue235
  t183 := Tryz.underlying236
  a183 := Tryz.isAgg236
  z183 := Tryz.sizeOf236
  v183 := Tryz.zeroValue236
  t218 := Tryz.underlying285
  a218 := Tryz.isAgg285
  z218 := Tryz.sizeOf285
  v218 := Tryz.zeroValue285
  t222 := Tryz.underlying289
  a222 := Tryz.isAgg289
  z222 := Tryz.sizeOf289
  v222 := Tryz.zeroValue289
  t228 := Tryz.underlying305
  a228 := Tryz.isAgg305
  z228 := Tryz.sizeOf305
  v228 := Tryz.zeroValue305
  t229 := Tryz.underlying306
  a229 := Tryz.isAgg306
  z229 := Tryz.sizeOf306
  v229 := Tryz.zeroValue306 }
theorem renSortS : laysSortS_ren.f 190 = 93 := by kernel_rfl
/-- slices.Sort of a row of texts. -/
theorem sortS_any (g cap : Nat) (ss : List (List UInt8)) (w : World) (hH : Holds encStr w g 0 ss.toArray) (hg : g < w.heap.size) (hs : ss.length < 4611686018427387904) :
    Calls Tryz.prog 93 #[.slice (some ⟨g, 0, none⟩) ss.length cap] w fun e w' => e = .returned (.tuple #[]) ∧ ∃ n os, w' = grow (putRow encStr (Sort.ahead w n) g 0 (ss.mergeSort fun x y => decide (x ≤ y)).toArray) os := by
  have h := Any.slices_Sort_string laysSortS g 0 cap ss w hH hg hs
  rw [renSortS] at h
  exact h
theorem sortS_none (p : Option Addr) (cap : Nat) (w : World) : Calls Tryz.prog 93 #[.slice p 0 cap] w fun e w' => e = .returned (.tuple #[]) ∧ w' = w := by
  have h := Any.slices_Sort_string_none laysSortS p cap w
  rw [renSortS] at h
  exact h
end Go.Proofs.YtdjpghgnjcmdnaaGreatDoor

/- The document's own Subjects: all that have a key, in order. -/
namespace Go.Proofs.YtdjpghgnjcmdnaaGreatDoor
open Go.RowKit Go.Maps Go.Sort
attribute [local go_sem ↓] Go.wp_at_zero Go.wp_at_succ
theorem Tryz.info9' : (Tryz.prog.info? 9).map (fun i => (i.zero, i.size, i.bytes)) = some (some (.string ⟨#[]⟩), 1, 16) := by kernel_rfl
theorem invK : ∀ key kl, keyOf Tryz.prog 9 key = some kl → ∃ x, key = encStr x := fun key kl hk => by
  obtain ⟨x, hx, _⟩ := Maps.keyOf_str Tryz.underlying9 hk
  exact ⟨x, hx⟩
/-- A bool that the walk does not take apart. -/
structure Flag where
  is : Bool
def Flag.v (f : Flag) : Value := .bool f.is
theorem invB : ∀ v y, plainElem (H := Unit) Tryz.prog 4 v = some y → ∃ f : Flag, v = f.v := fun v y hv => by
  obtain ⟨x, rfl, _⟩ := boolElem_inv Tryz.underlying4 hv
  exact ⟨⟨x⟩, rfl⟩
end Go.Proofs.YtdjpghgnjcmdnaaGreatDoor

/- The program's own Subjects: all that have a key, in order. -/
namespace Go.Proofs.YtdjpghgnjcmdnaaGreatDoor
open Go.RowKit Go.Maps Go.Sort
attribute [local go_sem ↓] Go.wp_at_zero Go.wp_at_succ
set_option maxRecDepth 100000 in
set_option maxHeartbeats 1000000 in
theorem subjects_none (b : Nat) (sec : ByteArray) (w : World) (hr : HasR w b 143 #[.string sec, .map none]) :
    Calls Tryz.prog 61 #[.pointer (some ⟨b, 0, none⟩)] w fun e w' => e = .returned (.slice none 0 0) ∧ Below w.heap.size w w' := by
  have c1 : w.cell? ⟨b, 1, none⟩ = some (.map none) := hr.cell 1
  have hrg := run_range_nilMap (P := Tryz.prog) w 141 9 145 Tryz.underlying141
  have hnx : ∀ ty, (Instr.next (.pointer (some ⟨w.heap.size, 0, none⟩)) false ty).run Tryz.prog (w.alloc (.mapIter none 0 #[] 0)) = _ := fun ty => run_next_nilMap _ ty 0 0 #[]
  clear hr
  go_enter Tryz.func61, Tryz.ntmps61
  go_wp2
  refine wp_loop_rounds 1 ?_
  rw [rounds_succ]
  go_wp2_with (go_at_call 93; refine (sortS_none none 0 _).mono ?_; rintro e w' ⟨rfl, rfl⟩)
  go_ret
  exact ⟨rfl, (Below.refl _ _).alloc (Nat.le_refl _) _⟩
/-- A holding as the map has it. -/
structure Hold where
  n : Int
  k : ByteArray
def Hold.v (h : Hold) : Value := .agg #[.int .i64 h.n, .string h.k]
theorem invH : ∀ v y, holdElem v = some y → ∃ h : Hold, v = h.v := fun v y hv => by
  obtain ⟨n, s, rfl, _⟩ := holdElem_inv hv
  exact ⟨⟨n, s⟩, rfl⟩
theorem empty_of {k : ByteArray} (h : k.data.toList = []) : k = ByteArray.empty := by
  apply ByteArray.ext
  exact Array.toList_inj.1 h
set_option maxRecDepth 100000 in
set_option maxHeartbeats 1000000 in
theorem subjects_some (b m : Nat) (sec : ByteArray) (n : Nat) (σ : Kept) (w : World) (hn : n < 1000) (hV : ProgV w b (some m) sec n σ) :
    Calls Tryz.prog 61 #[.pointer (some ⟨b, 0, none⟩)] w fun e w' => ∃ v ts, e = .returned v ∧ InOrder σ ts ∧ ts.length ≤ 1000 ∧ w'.ownsRow w.heap.size 9 1 v ts.length (ts.map encStr) ∧ Below w.heap.size w w' := by
  obtain ⟨i0, hi0, hz0, hz1, hz2⟩ := info_parts Tryz.info9'
  have c1 : w.cell? ⟨b, 1, none⟩ = some (.map (some m)) := hV.row.cell 1
  obtain ⟨D, ho, hi⟩ := hV.held m rfl
  have hbl := ho.lt
  have hsz := ho.size_le
  have HI := hide hi
  clear hV hi
  go_enter Tryz.func61, Tryz.ntmps61
  go_wp2_with (first
    | (at_range; refine wpList_range_own _ rfl _ 141 rfl 9 145 law9 Tryz.underlying141 _ m n _ rfl ho ?_; intro w0 hrg0 hg0 hs0)
    | go_in)
  go_frame
  go_loopw [3] (fun v wr => ∃ (left : Lit → Bool) (cnt : Nat) (ss : List (List UInt8)), wr.ranges Tryz.prog 9 holdElem m w.heap.size n D left cnt ∧ ss.length + cnt ≤ Maps.size D ∧
      wr.ownsRow w.heap.size 9 1 v ss.length (ss.map encStr) ∧ Gathered σ left ss ∧ Below w.heap.size w wr)
    (fun _ wr => wr.rangeLeft m w.heap.size)
  case atStart =>
    exact ⟨_, _, [], hrg0, by simp, World.ownsRow_nil _ _ _ _, Gathered.start (HI.out.has (keyL_ne sec)), (Below.refl _ _).grown hg0 (Nat.le_refl _) (fun j hj => by cases hj)⟩
  case round =>
    obtain ⟨left, cnt, ss, hrg, hcs, hrow, hC, hnx⟩ := hrel
    go_wp2_with (first
      | (at_next; refine wpList_next_ranges _ rfl _ rfl 9 law9 holdElem encStr Hold.v invK invH m w.heap.size n _ _ _ rfl hrg ?_ ?_)
      | go_in)
    · -- nothing is left
      intro hc0 hl0
      have hord := hC.inOrder hl0
      rcases hrow.2 with ⟨rfl, h0⟩ | ⟨g, cap, cur, rfl, hbase, hb, h1, h2, h3, h4⟩
      · have hss : ss = [] := List.length_eq_zero_iff.1 h0
        subst hss
        go_wp2_with (go_at_call 93; refine (sortS_none none 0 _).mono ?_; rintro e w' ⟨rfl, rfl⟩)
        go_ret
        exact ⟨_, _, rfl, hord, by simp, by simpa using World.ownsRow_nil _ _ _ _, hnx⟩
      · have hH : Holds encStr wr g 0 ss.toArray := Go.holds_of_block hb (by simpa using h4)
        have hgl : g < wr.heap.size := (Array.getElem?_eq_some_iff.1 hb).1
        have hc := sortS_any g cap ss wr hH hgl (by omega)
        go_wp2_with (go_at_call 93; refine hc.mono ?_; rintro e w' ⟨rfl, nn, os, rfl⟩)
        go_ret
        refine ⟨_, _, rfl, hord, by rw [List.length_mergeSort]; omega, ?_, hnx.grown (grownBy_sorted _) hnx.size (fun j hj => by cases hj; exact hbase)⟩
        have := ownsRow_sorted (n := nn) (os := os) (ss := ss) (ts := ss.mergeSort fun x y => decide (x ≤ y)) (by simp) hbase hb h1 h2 h3
        rw [List.length_mergeSort]
        exact this
    · -- an entry has come
      intro x y kl yd yp w2 cnt2 hkey hlk hv hat hrg2 hlt hg2 hs2 hen
      obtain ⟨x', ex, rfl, _⟩ := Maps.keyOf_str Tryz.underlying9 hkey
      obtain rfl : x = x' := encStr_inj ex
      have hrow2 := hrow.kept hg2 (Or.inr (row_ne_iter hrow hrg).symm)
      obtain ⟨yn, yk⟩ := y
      have hy : yk.data.toList = keyOr (keyL sec) σ x := by
        have e2 := holdElem_mk yn yk
        have e3 : holdElem (.agg #[.int .i64 yn, .string yk]) = some (yd, yp) := hv
        rw [e2] at e3
        have h1 := HI.out.2 x
        rw [hat] at h1
        cases e3
        simp only [holdD, DataW.agg.injEq, List.cons.injEq, DataW.lit.injEq, Lit.int.injEq, Lit.string.injEq, and_true, true_and] at h1
        exact h1.2
      clear hs2 hv
      simp only [Hold.v] at hen ⊢
      cases hh : (σ x).2 with
      | true =>
        have d : yk.toList.isEmpty = false := by
          rw [ByteArray.toList_eq, List.isEmpty_eq_false_iff, hy]
          unfold keyOr
          rw [hh]
          exact keyL_ne _ _ _
        clear hy
        go_wp2_with (first
          | (at_builtin; refine wpList_append_own _ rfl _ _ 61 rfl w.heap.size 9 i0 (.string ⟨#[]⟩) 1 16 Tryz.underlying61 hi0 hz0 hz1 hz2 rfl (by decide) _ _ _ rfl ((hrow2.alloc _).alloc _) ⟨w2.heap.size + 1, 0, none⟩ 1 1 [encStr x] rfl rfl (by have h := cell_one_new (w2.alloc (.cells #[.int .i64 yn, .string yk] 145)) (encStr x) 9; simpa using h) (by simp [Value.oneCell', encStr]) (by unfold maxLen at *; omega) (by omega) (by have := hnx.size; have := hg2.size; simp; omega) ?_; intro v' w3 hown' hg3 hnil3; go_frame)
          | go_in)
        have hrg3 := ((hrg2.alloc _).alloc _).kept hg3 (row_ne_low hrow2 hbl) (row_ne_iter hrow2 hrg2)
        go_roundw
        case rel =>
          refine ⟨_, cnt2, ss ++ [x], hrg3, by simp; omega, by simpa using hown', hC.step_in hlk hh, ?_⟩
          exact (((hnx.grown hg2 hnx.size (fun j hj => by cases hj; exact Nat.le_refl _)).alloc (by have := hnx.size; have := hg2.size; omega) _).alloc (by have := hnx.size; have := hg2.size; simp; omega) _).grown hg3 (by have := hnx.size; have := hg2.size; simp; omega) (fun j hj => (hrow2.lt j hj).1)
        case measure => rw [hrg3.left_eq, hrg.left_eq]; exact hlt
      | false =>
        have d : yk = ByteArray.empty := empty_of (by rw [hy]; unfold keyOr; rw [hh]; rfl)
        subst d
        clear hy
        go_wp2
        go_roundw
        case rel => exact ⟨_, cnt2, ss, hrg2.alloc _, by omega, hrow2.alloc _, hC.step_out hh, (hnx.grown hg2 hnx.size (fun j hj => by cases hj; exact Nat.le_refl _)).alloc (by have := hnx.size; have := hg2.size; omega) _⟩
        case measure => rw [(hrg2.alloc _).left_eq, hrg.left_eq]; exact hlt
/-- Whatever the program's vault has. -/
theorem subjects_any (b : Nat) (mo : Option Nat) (sec : ByteArray) (n : Nat) (σ : Kept) (w : World) (hn : n < 1000) (hV : ProgV w b mo sec n σ) :
    Calls Tryz.prog 61 #[.pointer (some ⟨b, 0, none⟩)] w fun e w' => ∃ v ts, e = .returned v ∧ InOrder σ ts ∧ ts.length ≤ 1000 ∧ w'.ownsRow w.heap.size 9 1 v ts.length (ts.map encStr) ∧ Below w.heap.size w w' := by
  cases mo with
  | none =>
    have e0 := hV.none rfl
    subst e0
    exact (subjects_none b sec w hV.row).mono fun e w' ⟨he, hb⟩ => ⟨_, [], he, inOrder0, by simp, World.ownsRow_nil _ _ _ _, hb⟩
  | some m => exact subjects_some b m sec n σ w hn hV
end Go.Proofs.YtdjpghgnjcmdnaaGreatDoor

/- The order 'subjects'. -/
namespace Go.Proofs.YtdjpghgnjcmdnaaGreatDoor
open Go.RowKit Go.Shelf Go.Sort Go.Maps
set_option linter.unusedSectionVars false
variable [Inhabited LowT]
variable [Inhabited Cl] [Inhabited Ev]
attribute [local go_sem ↓] Go.wp_at_zero Go.wp_at_succ
theorem Did.names {sec : ByteArray} {s : Hst} (h : Did sec s) : ∀ l, (s.σ l).2 = true → l.length ≤ 10 :=
  h.ind (P := fun s => ∀ l, (s.σ l).2 = true → l.length ≤ 10) (fun l hl => by cases hl) (fun s e _ hp hd l hl => by
    have hr := (does_parts hd).1
    have hn := nameB_len (right_kinds hr).1
    have hz : e.s.data.toList.length = e.s.size := by simp
    have h1 : (tellK s.σ e l).2 = true := hl
    unfold tellK at h1
    split at h1
    · unfold gone at h1
      split at h1
      · cases h1
      · exact hp l h1
    · unfold made at h1
      split at h1
      · rename_i e2
        rw [e2]
        omega
      · exact hp l h1)
theorem order_mem {σ : Kept} {ts : List (List UInt8)} (h : InOrder σ ts) : ∀ t ∈ ts, (σ t).2 = true := by
  obtain ⟨ss, _, h2, rfl⟩ := h
  intro t ht
  exact (h2 t).1 (List.mem_mergeSort.1 ht)
set_option maxRecDepth 100000 in
set_option maxHeartbeats 4000000 in
theorem cmd_subjects : CmdOk 24 (arOf (0)) := by
  intro db s w x v xs z hD hc hV hP hsz har hz
  obtain ⟨κ, B, ob, sb, fb, vb, mt, mv, vf, rm, ρ, c3, c4, c5, c6, h⟩ := hD
  obtain ⟨hP1, p, cp, rfl, hcp⟩ := hP
  have hx := (size_words hsz).1
  have X0 := hide (HasR.new w 65 #[.string x, .slice p xs.length cp, .int .i64 z])
  have B0 := hide ((Below.refl w.heap.size w).alloc (Nat.le_refl _) (.cells #[.string x, .slice p xs.length cp, .int .i64 z] 65))
  obtain ⟨W, hW⟩ : ∃ W, w.alloc (.cells #[.string x, .slice p xs.length cp, .int .i64 z] 65) = W := ⟨_, rfl⟩
  rw [hW] at X0 B0
  have HW := hide hW
  have HD := hide (h.still B0.out)
  have h11 := hV.n
  have _hk11 := lowK_le
  have HV := hide (hV.low (B0.out.mono h11) B0.out.size)
  have hlS : s.h.ok.length ≤ 100 := h.good.len
  have hrl : s.h.rs.length = s.h.ok.length := h.good.did.both
  have VB : Hid (∀ wx, Below W.heap.size W wx → Vars wx) := hide fun wx hb => HV.out.low (hb.mono HV.out.n) hb.size
  have KB : Hid (∀ wx, Below W.heap.size W wx → wx.cell? ⟨w.heap.size, 0, none⟩ = some (.string x) ∧ wx.cell? ⟨w.heap.size, 1, none⟩ = some (.slice p xs.length cp) ∧ wx.cell? ⟨w.heap.size, 2, none⟩ = some (.int .i64 z) ∧ wx.cell? ⟨db, 1, none⟩ = some (.pointer (some ⟨sb, 0, none⟩))) := hide fun wx hb =>
    have X := X0.out.below hb X0.out.lt
    ⟨X.cell 0, X.cell 1, X.cell 2, (HD.out.still hb).desk.cell 1⟩
  obtain ⟨k0, k1, k2, k3⟩ := KB.out W (Below.refl _ _)
  have HH := hide h
  have HP := hide hP1
  have LW : Hid (Parts W (.slice p xs.length cp) xs) := hide (hP1.below B0.out rfl)
  clear h hW hP1
  have SV := hide (srcVault_any B W.drew sb fb vb mt mv vf _ _ s.sec s.h.σ s.h.τ s.h.rs (HD.out.src.still (Below.refl _ W).drew))
  have SJ := hide (subjects_any vb mv s.sec s.h.ok.length s.h.σ W.drew (by omega) (HD.out.src.still (Below.refl _ W).drew).keys)
  go_enter Tryz.func24, Tryz.ntmps24
  go_upto_region 1 with fail
  rw [HW.out]
  go_region_held3 (fun wx => wx.cell? ⟨w.heap.size, 0, none⟩ = some (.string x) ∧ wx.cell? ⟨w.heap.size, 1, none⟩ = some (.slice p xs.length cp) ∧ wx.cell? ⟨w.heap.size, 2, none⟩ = some (.int .i64 z) ∧ wx.cell? ⟨db, 1, none⟩ = some (.pointer (some ⟨sb, 0, none⟩))) (first | (with_reducible exact K2.out) | (with_reducible exact K3.out) | (with_reducible exact K4.out) | (with_reducible exact K5.out) | (with_reducible exact K6.out) | go_keep)
    (first
    | (go_at_call 56; (with_reducible refine SV.out.mono ?_); rintro y w2 ⟨rfl, hw⟩; obtain rfl := hw.symm)
    | (go_at_call 61; (with_reducible refine SJ.out.mono ?_); rintro y w3 ⟨u, ts, rfl, ho, hl, hrow, hb3⟩; have B3 := hide (below_of_drew hb3); have K3 := hide (KB.out w3 B3.out); have hpp : w3.ownsRow W.drew.heap.size 9 1 u ts.length ((ts.map textL).map Value.string) := (by rw [List.map_map]; exact hrow); have HO := hide ho; have hts : ∀ q ∈ ts.map textL, q.size ≤ 10 := (fun q hq => by obtain ⟨t, ht, rfl⟩ := List.mem_map.1 hq; exact Did.names HH.out.good.did t (order_mem ho t ht)); have HTS := hide hts; have hl2 : (ts.map textL).length ≤ 1000 := (by simpa using hl); have C12 := hide (tell_any x u (ts.map textL) w3 (parts_of_row hpp (by simp)) (by omega) (told_fits hts hx (by omega))); clear hb3 hpp hrow ho hts hl)
    | (go_at_call 12; (with_reducible refine C12.out.mono ?_); rintro y w4 ⟨rfl, hb4⟩; have B4 := hide (B3.out.trans (hb4.mono B3.out.size)); have K4 := hide (KB.out w4 B4.out); clear hb4))
  go_wp2
  go_ret
  have bT : Below w.heap.size w w4 := B0.out.trans (B4.out.mono B0.out.size)
  refine ⟨toldR x ts s, .inr (.inr (.inr (.inr (.inr (.inr (.inr (.inr (.inr (.inr (.inl ⟨rfl, ts, HO.out, rfl⟩)))))))))), .inr ⟨_, _, rfl, rfl, ?_, HH.out.same bT⟩, Quiet.of_below bT h11⟩
  have := told_fits HTS.out hx (by omega) (x := x)
  omega
end Go.Proofs.YtdjpghgnjcmdnaaGreatDoor
