/- Texts of this proof, one behind the other. -/
import Derived.Ground.GgzProg
import Derived.Ground.SlgmProg
import Derived.Shelf.SlGeneric
import Derived.Shelf.SlIter.Nil
import Derived.Shelf.SortM.Plain
import Derived.Shelf.SortM.SortNone
import Derived.Test.YtdjpghgnjcmdnaaGreatDoorProg
import Derived.Deep.RegionHeld3
import Derived.Deep.DeepCutAuto
import Derived.Test.YtdjpghgnjcmdnaaGreatDoorPart42
/- The keys of a map, in order: the library laid at this program. -/
namespace Go.Proofs.YtdjpghgnjcmdnaaGreatDoor
open Go.RowKit Go.Maps Go.Sort Go.Shelf
def keysD65_ren : Go.Shelf.Ren := ⟨fun | 7 => 65 | 10 => 100 | n => n, fun | 23 => 27 | 26 => 9 | 3 => 54 | 28 => 42 | 0 => 0 | 27 => 41 | 33 => 154 | 4 => 4 | n => n, fun | n => n⟩
theorem keysD65 : Go.Proofs.SlLaysZ.n7 Tryz.prog keysD65_ren := {
  mixed := by kernel_rfl
  f7 := ⟨Tryz.f65.name, by decide, Tryz.func65.trans (congrArg some (by kernel_rfl))⟩
  f10 := ⟨Tryz.f100.name, by decide, Tryz.func100.trans (congrArg some (by kernel_rfl))⟩
  t0 := Tryz.underlying0
  a0 := Tryz.isAgg0
  z0 := Tryz.sizeOf0
  v0 := Tryz.zeroValue0
  t4 := Tryz.underlying4
  a4 := Tryz.isAgg4
  z4 := Tryz.sizeOf4
  v4 := Tryz.zeroValue4
  t23 := Tryz.underlying27
  a23 := Tryz.isAgg27
  z23 := Tryz.sizeOf27
  v23 := Tryz.zeroValue27
  t26 := Tryz.underlying9
  a26 := Tryz.isAgg9
  z26 := Tryz.sizeOf9
  v26 := Tryz.zeroValue9
  t27 := Tryz.underlying41
  a27 := Tryz.isAgg41
  z27 := Tryz.sizeOf41
  v27 := Tryz.zeroValue41
  t28 := Tryz.underlying42
  a28 := Tryz.isAgg42
  z28 := Tryz.sizeOf42
  v28 := Tryz.zeroValue42
  t33 := Tryz.underlying154
  a33 := Tryz.isAgg154
  z33 := Tryz.sizeOf154
  v33 := Tryz.zeroValue154 }
def sortedD64_ren : Go.Shelf.Ren := ⟨fun | 6 => 64 | 8 => 99 | 9 => 93 | 11 => 137 | 13 => 133 | 12 => 132 | 23 => 181 | 24 => 144 | 14 => 172 | 15 => 173 | 16 => 174 | 17 => 175 | 18 => 176 | 19 => 177 | 20 => 178 | 21 => 179 | 22 => 180 | 25 => 214 | 26 => 215 | 27 => 216 | 28 => 217 | 29 => 218 | 30 => 219 | 31 => 237 | n => n, fun | 26 => 9 | 28 => 42 | 24 => 61 | 0 => 0 | 3 => 3 | 37 => 139 | 48 => 149 | 50 => 114 | 4 => 4 | 40 => 236 | 39 => 235 | 45 => 240 | 5 => 5 | 9 => 9 | 51 => 285 | 55 => 289 | 57 => 305 | 58 => 306 | 33 => 154 | n => n, fun | n => n⟩
theorem sortedD64 : Go.Proofs.SlLaysZ.n6 Tryz.prog sortedD64_ren := {
  mixed := by kernel_rfl
  f6 := ⟨Tryz.f64.name, by decide, Tryz.func64.trans (congrArg some (by kernel_rfl))⟩
  f8 := ⟨Tryz.f99.name, by decide, Tryz.func99.trans (congrArg some (by kernel_rfl))⟩
  f11 := ⟨Tryz.f137.name, by decide, Tryz.func137.trans (congrArg some (by kernel_rfl))⟩
  t0 := Tryz.underlying0
  a0 := Tryz.isAgg0
  z0 := Tryz.sizeOf0
  v0 := Tryz.zeroValue0
  t24 := Tryz.underlying61
  a24 := Tryz.isAgg61
  z24 := Tryz.sizeOf61
  v24 := Tryz.zeroValue61
  t26 := Tryz.underlying9
  a26 := Tryz.isAgg9
  z26 := Tryz.sizeOf9
  v26 := Tryz.zeroValue9
  t28 := Tryz.underlying42
  a28 := Tryz.isAgg42
  z28 := Tryz.sizeOf42
  v28 := Tryz.zeroValue42
  i26 := by kernel_rfl }
def sortD93_ren : Go.Shelf.Ren := ⟨fun | 6 => 93 | 8 => 133 | 9 => 132 | 19 => 181 | 20 => 144 | 21 => 172 | 22 => 173 | 23 => 174 | 24 => 175 | 25 => 176 | 26 => 177 | 27 => 178 | 28 => 179 | 29 => 180 | 36 => 214 | 31 => 215 | 32 => 216 | 37 => 217 | 38 => 218 | 39 => 219 | 41 => 237 | n => n, fun | 27 => 61 | 29 => 9 | 3 => 3 | 32 => 139 | 26 => 61 | 0 => 0 | 44 => 149 | 46 => 114 | 4 => 4 | 36 => 236 | 35 => 235 | 41 => 240 | 5 => 5 | 9 => 9 | 53 => 285 | 57 => 289 | 63 => 305 | 64 => 306 | n => n, fun | n => n⟩
theorem sortD93 : Go.Proofs.SlLaysM.n6 Tryz.prog sortD93_ren := {
  mixed := by kernel_rfl
  f6 := ⟨Tryz.f93.name, by decide, Tryz.func93.trans (congrArg some (by kernel_rfl))⟩
  f8 := Tryz.func133.trans (congrArg some (by kernel_rfl))
  f9 := ⟨Tryz.f132.name, by decide, Tryz.func132.trans (congrArg some (by kernel_rfl))⟩
  f19 := Tryz.func181.trans (congrArg some (by kernel_rfl))
  f20 := Tryz.func144.trans (congrArg some (by kernel_rfl))
  f21 := ⟨Tryz.f172.name, by decide, Tryz.func172.trans (congrArg some (by kernel_rfl))⟩
  f22 := ⟨Tryz.f173.name, by decide, Tryz.func173.trans (congrArg some (by kernel_rfl))⟩
  f23 := ⟨Tryz.f174.name, by decide, Tryz.func174.trans (congrArg some (by kernel_rfl))⟩
  f24 := ⟨Tryz.f175.name, by decide, Tryz.func175.trans (congrArg some (by kernel_rfl))⟩
  f25 := ⟨Tryz.f176.name, by decide, Tryz.func176.trans (congrArg some (by kernel_rfl))⟩
  f26 := ⟨Tryz.f177.name, by decide, Tryz.func177.trans (congrArg some (by kernel_rfl))⟩
  f27 := ⟨Tryz.f178.name, by decide, Tryz.func178.trans (congrArg some (by kernel_rfl))⟩
  f28 := ⟨Tryz.f179.name, by decide, Tryz.func179.trans (congrArg some (by kernel_rfl))⟩
  f29 := ⟨Tryz.f180.name, by decide, Tryz.func180.trans (congrArg some (by kernel_rfl))⟩
  f31 := Tryz.func215.trans (congrArg some (by kernel_rfl))
  f32 := Tryz.func216.trans (congrArg some (by kernel_rfl))
  f36 := ⟨Tryz.f214.name, by decide, Tryz.func214.trans (congrArg some (by kernel_rfl))⟩
  f37 := ⟨Tryz.f217.name, by decide, Tryz.func217.trans (congrArg some (by kernel_rfl))⟩
  f38 := ⟨Tryz.f218.name, by decide, Tryz.func218.trans (congrArg some (by kernel_rfl))⟩
  f39 := ⟨Tryz.f219.name, by decide, Tryz.func219.trans (congrArg some (by kernel_rfl))⟩
  f41 := ⟨Tryz.f237.name, by decide, Tryz.func237.trans (congrArg some (by kernel_rfl))⟩
  t0 := Tryz.underlying0
  a0 := Tryz.isAgg0
  z0 := Tryz.sizeOf0
  v0 := Tryz.zeroValue0
  t3 := Tryz.underlying3
  a3 := Tryz.isAgg3
  z3 := Tryz.sizeOf3
  v3 := Tryz.zeroValue3
  t4 := Tryz.underlying4
  a4 := Tryz.isAgg4
  z4 := Tryz.sizeOf4
  v4 := Tryz.zeroValue4
  t5 := Tryz.underlying5
  a5 := Tryz.isAgg5
  z5 := Tryz.sizeOf5
  v5 := Tryz.zeroValue5
  t9 := Tryz.underlying9
  a9 := Tryz.isAgg9
  z9 := Tryz.sizeOf9
  v9 := Tryz.zeroValue9
  t26 := Tryz.underlying61
  a26 := Tryz.isAgg61
  z26 := Tryz.sizeOf61
  v26 := Tryz.zeroValue61
  t27 := Tryz.underlying61
  a27 := Tryz.isAgg61
  z27 := Tryz.sizeOf61
  v27 := Tryz.zeroValue61
  t29 := Tryz.underlying9
  a29 := Tryz.isAgg9
  z29 := Tryz.sizeOf9
  v29 := Tryz.zeroValue9
  t32 := Tryz.underlying139
  a32 := Tryz.isAgg139
  z32 := Tryz.sizeOf139
  v32 := Tryz.zeroValue139
  t35 := Tryz.underlying235
  a35 := Tryz.isAgg235
  z35 := Tryz.sizeOf235
  v35 := Tryz.zeroValue235
  t36 := Tryz.underlying236
  a36 := Tryz.isAgg236
  z36 := Tryz.sizeOf236
  v36 := Tryz.zeroValue236
  t41 := Tryz.underlying240
  a41 := Tryz.isAgg240
  z41 := Tryz.sizeOf240
  v41 := Tryz.zeroValue240
  t44 := Tryz.underlying149
  a44 := Tryz.isAgg149
  z44 := Tryz.sizeOf149
  v44 := Tryz.zeroValue149
  t46 := Tryz.underlying114
  a46 := Tryz.isAgg114
  z46 := Tryz.sizeOf114
  v46 := Tryz.zeroValue114
  t53 := Tryz.underlying285
  a53 := Tryz.isAgg285
  z53 := Tryz.sizeOf285
  v53 := Tryz.zeroValue285
  t57 := Tryz.underlying289
  a57 := Tryz.isAgg289
  z57 := Tryz.sizeOf289
  v57 := Tryz.zeroValue289
  t63 := Tryz.underlying305
  a63 := Tryz.isAgg305
  z63 := Tryz.sizeOf305
  v63 := Tryz.zeroValue305
  t64 := Tryz.underlying306
  a64 := Tryz.isAgg306
  z64 := Tryz.sizeOf306
  v64 := Tryz.zeroValue306 }
theorem sortsD64 (m : Nat) : AnyZ.SortsIn Tryz.prog sortedD64_ren Fence.wide m :=
  ⟨fun blk off cap ss W hH hblk hsz => callsIn_wide.2 (AnyM.slices_Sort_string sortD93 blk off cap ss W hH hblk hsz),
   fun p cap W => callsIn_wide.2 (AnyM.slices_Sort_string_none sortD93 p cap W)⟩

theorem maps_Keys_65 (mb : Option Nat) (W : World) : CallsIn Fence.wide 5 Tryz.prog 65 #[.map mb] W fun e w' => e = .returned (.func (.func 100) #[] #[.pointer (some ⟨W.heap.size, 0, none⟩)]) ∧ w' = W.alloc (.cells #[.map mb] 27) :=
  AnyZ.keys_in keysD65 Fence.wide 5 trivial rfl mb W

set_option maxHeartbeats 1000000 in
theorem sorted_keys_64 {H : Type} (b nn : Nat) (D0 : DataW H) (R : Value → Option (DataW H × List MemPlace)) (w : World) (hown : w.ownsMap Tryz.prog 9 R b nn D0) (hmax : Maps.size D0 ≤ maxLen) (hbytes : Maps.size D0 * 16 ≤ 140737488355328) :
    CallsIn Fence.wide 5 Tryz.prog 64 #[.func (.func 100) #[] #[.pointer (some ⟨w.heap.size, 0, none⟩)]] (w.alloc (.cells #[.map (some b)] 27)) fun e w' => ∃ (v : Value) (ss : List (List UInt8)), e = .returned v ∧ ss.Perm (strKeys D0) ∧
      w'.ownsRow (w.alloc (.cells #[.map (some b)] 27)).heap.size 9 1 v ss.length ((ss.mergeSort (fun x y => decide (x ≤ y))).map encStr) ∧ (v = .slice none 0 0 ↔ ss = []) ∧ Below (w.alloc (.cells #[.map (some b)] 27)).heap.size (w.alloc (.cells #[.map (some b)] 27)) w' := by
  have hbl := hown.lt
  have hseq : SeqGives Fence.wide 2 Tryz.prog 100 #[.pointer (some ⟨w.heap.size, 0, none⟩)] encStr (fun ss => ss.Perm (strKeys D0)) (Maps.size D0) (w.alloc (.cells #[.map (some b)] 27)) :=
    AnyZ.keys_gives (ρ := keysD65_ren) { keysD65 with } Fence.wide _ trivial rfl (by omega) w.heap.size b nn D0 _ (by simp) (by simp) (by
      obtain ⟨es, clock, hb, Ft, hs, hD⟩ := hown
      exact ⟨es, clock, (Below.heap_alloc _ _ b hbl).trans hb, Ft, hs, hD⟩)
  exact AnyZ.sorted_in sortedD64 Fence.wide 5 trivial trivial trivial trivial rfl (by omega) (sortsD64 _) (enters_of Tryz.func93 (by kernel_rfl) rfl) 100 #[.pointer (some ⟨w.heap.size, 0, none⟩)] trivial (enters_of Tryz.func100 (by kernel_rfl) rfl) _ _ hmax hbytes _ hseq
end Go.Proofs.YtdjpghgnjcmdnaaGreatDoor

/- The order 'help'. -/
namespace Go.Proofs.YtdjpghgnjcmdnaaGreatDoor
open Go.RowKit Go.Shelf Go.Sort Go.Maps
set_option linter.unusedSectionVars false
variable [Inhabited LowT]
variable [Inhabited Cl] [Inhabited Ev]
attribute [local go_sem ↓] Go.wp_at_zero Go.wp_at_succ
def keysL : List (List UInt8) := ordersL.map fun o => o.1.data.toList
theorem keys_table (db : Nat) : (strKeys (tableD db)).Perm keysL := by
  have e : strKeys (tableD db) = strKeys (tableD 0) := by kernel_rfl
  rw [e]
  exact List.isPerm_iff.1 (by decide +kernel)
theorem size_table (db : Nat) : Maps.size (tableD db) = 16 := by kernel_rfl
theorem help_len : ∀ t ∈ keysL, t.length ≤ 8 := by decide +kernel
theorem lens_sorted (l : List (List UInt8)) (h : ∀ t ∈ l, t.length ≤ 8) : (Lib.join l [32]).length ≤ l.length * 9 := by
  induction l with
  | nil => simp [Lib.join]
  | cons a l ih =>
    have ha := h a (List.mem_cons_self ..)
    have ih2 := ih (fun t ht => h t (List.mem_cons_of_mem _ ht))
    cases l with
    | nil =>
      simp [Lib.join]
      omega
    | cons b l =>
      have h4 : (Lib.join (a :: b :: l) [32]).length = a.length + 1 + (Lib.join (b :: l) [32]).length := by
        simp [Lib.join]
        try omega
      rw [h4, List.length_cons]
      omega
theorem help_sorted {ss : List (List UInt8)} {db : Nat} (h : ss.Perm (strKeys (tableD db))) : Lib.join (ss.mergeSort fun x y => decide (x ≤ y)) [32] = helpL := by
  unfold helpL
  rw [mergeSort_of_perm (h.trans (keys_table db))]
  rfl
theorem help_fits : helpL.length ≤ 1000 := by
  have h1 := lens_sorted (keysL.mergeSort fun x y => decide (x ≤ y)) (fun t ht => help_len t (List.mem_mergeSort.1 ht))
  have h2 : (keysL.mergeSort fun x y => decide (x ≤ y)).length = 16 := by
    rw [List.length_mergeSort]
    rfl
  have h3 : helpL = Lib.join (keysL.mergeSort fun x y => decide (x ≤ y)) [32] := rfl
  rw [h3]
  omega
theorem sorted_told (db ob : Nat) (W : World) (ho : W.ownsMap Tryz.prog 9 ordElem ob 16 (tableD db)) :
    Calls Tryz.prog 64 #[.func (.func 100) #[] #[.pointer (some ⟨W.heap.size, 0, none⟩)]] (W.alloc (.cells #[.map (some ob)] 27)) fun e w' => ∃ (p : Option Addr) (cp : Nat) (ps : List ByteArray), e = .returned (.slice p ps.length cp) ∧ ps.length ≤ cp ∧ ps.length ≤ 16 ∧ Lib.join (ps.map (·.data.toList)) [32] = helpL ∧ Parts w' (.slice p ps.length cp) ps ∧ Below W.heap.size W w' := by
  refine (callsIn_wide.1 (sorted_keys_64 ob 16 (tableD db) ordElem W ho (by rw [size_table]; unfold maxLen; omega) (by rw [size_table]; omega))).mono ?_
  rintro y w3 ⟨u, ss, rfl, hS, hrow, _, hb3⟩
  have hl := (hS.trans (keys_table db)).length_eq
  have h16 : keysL.length = 16 := rfl
  have hj := help_sorted hS
  clear hS
  have hlm : (ss.mergeSort (fun x y => decide (x ≤ y))).length = ss.length := List.length_mergeSort _
  generalize ss.mergeSort (fun x y => decide (x ≤ y)) = ts at hrow hj hlm
  have hsz : (W.alloc (.cells #[.map (some ob)] 27)).heap.size = W.heap.size + 1 := by simp
  have bA : Below W.heap.size W (W.alloc (.cells #[.map (some ob)] 27)) := (Below.refl _ W).alloc (Nat.le_refl _) _
  have hpp : w3.ownsRow (W.alloc (.cells #[.map (some ob)] 27)).heap.size 9 1 u ss.length ((ts.map textL).map Value.string) := by
    rw [List.map_map]
    exact hrow
  have hn : ss.length = (ts.map textL).length := by
    rw [List.length_map]
    exact hlm.symm
  rw [hn] at hpp
  have PT := parts_of_row hpp rfl
  have hjj : Lib.join ((ts.map textL).map (·.data.toList)) [32] = helpL := by
    rw [List.map_map]
    exact (congrArg (fun l => Lib.join l [32]) (List.map_id _)).trans hj
  rcases hpp.2 with ⟨e, e0⟩ | ⟨g, cap, cur, e, hb, hg, a1, _⟩
  · refine ⟨none, 0, ts.map textL, by rw [e, e0], by omega, by omega, hjj, ?_, bA.trans (hb3.mono (by omega))⟩
    rw [e] at PT
    rw [e0]
    exact PT
  · refine ⟨some ⟨g, 0, none⟩, cap, ts.map textL, by rw [e], a1, by omega, hjj, ?_, bA.trans (hb3.mono (by omega))⟩
    rw [e] at PT
    exact PT
set_option maxRecDepth 100000 in
set_option maxHeartbeats 4000000 in
theorem cmd_help : CmdOk 27 (arOf (0)) := by
  intro db s w x v xs z hD hc hV hP hsz har hz
  obtain ⟨κ, B, ob, sb, fb, vb, mt, mv, vf, rm, ρ, c3, c4, c5, c6, h⟩ := hD
  obtain ⟨hP1, p, cp, rfl, hcp⟩ := hP
  have hx := (size_words hsz).1
  have X0 := hide (HasR.new w 65 #[.string x, .slice p xs.length cp, .int .i64 z])
  have B0 := hide ((Below.refl w.heap.size w).alloc (Nat.le_refl _) (.cells #[.string x, .slice p xs.length cp, .int .i64 z] 65))
  obtain ⟨W, hW⟩ : ∃ W, w.alloc (.cells #[.string x, .slice p xs.length cp, .int .i64 z] 65) = W := ⟨_, rfl⟩
  rw [hW] at X0 B0
  have HW := hide hW
  have HD := hide (h.still B0.out)
  have h11 := hV.n
  have _hk11 := lowK_le
  have HV := hide (hV.low (B0.out.mono h11) B0.out.size)
  have hlS : s.h.ok.length ≤ 100 := h.good.len
  have hrl : s.h.rs.length = s.h.ok.length := h.good.did.both
  have VB : Hid (∀ wx, Below W.heap.size W wx → Vars wx) := hide fun wx hb => HV.out.low (hb.mono HV.out.n) hb.size
  have KB : Hid (∀ wx, Below W.heap.size W wx → wx.cell? ⟨w.heap.size, 0, none⟩ = some (.string x) ∧ wx.cell? ⟨w.heap.size, 1, none⟩ = some (.slice p xs.length cp) ∧ wx.cell? ⟨w.heap.size, 2, none⟩ = some (.int .i64 z) ∧ wx.cell? ⟨db, 1, none⟩ = some (.pointer (some ⟨sb, 0, none⟩))) := hide fun wx hb =>
    have X := X0.out.below hb X0.out.lt
    ⟨X.cell 0, X.cell 1, X.cell 2, (HD.out.still hb).desk.cell 1⟩
  obtain ⟨k0, k1, k2, k3⟩ := KB.out W (Below.refl _ _)
  have HH := hide h
  have HP := hide hP1
  have LW : Hid (Parts W (.slice p xs.length cp) xs) := hide (hP1.below B0.out rfl)
  clear h hW hP1
  have K65 := hide (fun (wx : World) => callsIn_wide.1 (maps_Keys_65 (some ob) wx))
  have K64 := hide (sorted_told db ob W HD.out.ord)
  have j0 : W.cell? ⟨db, 0, none⟩ = some (.map (some ob)) := HD.out.desk.cell 0
  obtain ⟨hpl, hhpl⟩ : ∃ hpl, helpL = hpl := ⟨_, rfl⟩
  have HHP := hide (fun _ : Unit => hhpl)
  have hfl : hpl.length ≤ 1000 := by rw [← hhpl]; exact help_fits
  rw [hhpl] at K64
  clear hsz hhpl
  go_enter Tryz.func27, Tryz.ntmps27
  go_upto_region 1 with fail
  rw [HW.out]
  go_wp2_with (first
    | (go_at_call 65; (with_reducible refine (K65.out _).mono ?_); rintro y w2 ⟨rfl, rfl⟩)
    | (go_at_call 64; (with_reducible refine K64.out.mono ?_); rintro y w3 ⟨p3, cp3, ps, rfl, hc3, h16, hj3, hP3, hb3⟩; have B3 := hide hb3; have C38 := hide (join_words hP3 hc3 (by rw [hj3]; omega) (by omega)); rw [hj3] at C38; clear hb3 hP3 hj3)
    | (go_at_call 38; (with_reducible refine C38.out.mono ?_); rintro y w4 ⟨rfl, hb4⟩; have B4 := hide (B3.out.trans (hb4.mono B3.out.size))))
  go_ret
  have bT : Below w.heap.size w w4 := B0.out.trans (B4.out.mono B0.out.size)
  refine ⟨.inr (helpL, s), .inr (.inr (.inr (.inr (.inr (.inr (.inr (.inr (.inr (.inr (.inr (.inr (.inr ⟨rfl, rfl⟩)))))))))))), .inr ⟨_, _, rfl, ?_, ?_, HH.out.same bT⟩, Quiet.of_below bT h11⟩
  · rw [HHP.out ()]
    rfl
  · rw [HHP.out ()]
    omega
end Go.Proofs.YtdjpghgnjcmdnaaGreatDoor

/- Every order is carried out. -/
namespace Go.Proofs.YtdjpghgnjcmdnaaGreatDoor
open Go.RowKit Go.Shelf Go.Sort Go.Maps
set_option linter.unusedSectionVars false
variable [Inhabited LowT]
variable [Inhabited Cl] [Inhabited Ev]
theorem all_orders : ∀ o ∈ ordersL, CmdOk o.2.2.2 (arOf o.2.1) := by
  intro o ho
  unfold ordersL at ho
  simp only [List.mem_cons, List.not_mem_nil, or_false] at ho
  rcases ho with rfl | rfl | rfl | rfl | rfl | rfl | rfl | rfl | rfl | rfl | rfl | rfl | rfl | rfl | rfl | rfl
  · exact cmd_new
  · exact cmd_happen
  · exact cmd_happen
  · exact cmd_happen
  · exact cmd_cells
  · exact cmd_read
  · exact cmd_rows
  · exact cmd_lost
  · exact cmd_save
  · exact cmd_load
  · exact cmd_feed
  · exact cmd_wire
  · exact cmd_subjects
  · exact cmd_block
  · exact cmd_sum
  · exact cmd_help
end Go.Proofs.YtdjpghgnjcmdnaaGreatDoor

/- What the lines that the law asks are answered, all of them; the law but for its door. -/
namespace Go.Proofs.YtdjpghgnjcmdnaaGreatDoor
open Go.RowKit Go.Shelf Go.Sort Go.Maps
set_option linter.unusedSectionVars false
variable [Inhabited LowT]
variable [Inhabited Cl] [Inhabited Ev]
theorem RunsTo.cons {S : Type} {Ans : S → List UInt8 → List UInt8 → S → Prop} {s s' t : S} {l o r : List UInt8} {ls : List (List UInt8)} (h : Ans s l o s') (k : RunsTo Ans s' ls r t) : RunsTo Ans s (l :: ls) (o ++ 10 :: r) t := ⟨o, s', r, h, k, rfl⟩
theorem readOne_no {h : Hst} {r : RdS} (hl : lossB h.ok r.q = false) : readOne h r = ⟨r.q + 1, markR (h.rs.getD r.q recZ), r.lost, app (h.ok.getD r.q ev0) r.τ⟩ := by
  unfold readOne
  rw [hl]
  rfl
theorem readOne_yes {h : Hst} {r : RdS} (hl : lossB h.ok r.q = true) : readOne h r = ⟨r.q + 1, markR (h.rs.getD r.q recZ), r.lost + 1, r.τ⟩ := by
  unfold readOne
  rw [hl]
  rfl
theorem ls1 : lossB [evA] 0 = false := by decide +kernel
theorem ls30 : lossB [evA, evB, evC] 0 = true := by decide +kernel
theorem ls31 : lossB [evA, evB, evC] 1 = false := by decide +kernel
theorem ls32 : lossB [evA, evB, evC] 2 = false := by decide +kernel
theorem does1 : doesB kept0 tab0 evA = true := by decide +kernel
theorem does2 : doesB σA τA evB = true := by decide +kernel
theorem does3 : doesB σB τB evC = true := by decide +kernel
theorem tg2 : 1 = if evB.k = 3 then 0 else (tellK σA evB evB.s.data.toList).1 := by decide +kernel
theorem sound0 : Sound kept0 := fun l h => by cases h
theorem soundA : Sound σA := sound0.tellK evA
theorem soundB : Sound σB := soundA.tellK evB
theorem get_set (s : DeskS) (x : ByteArray) (r : RdS) : getR (setR s x r) x = r := by
  unfold getR setR
  simp
theorem get_ne {x y : ByteArray} (h : ¬ y = x) (s : DeskS) (r : RdS) : getR (setR s x r) y = getR s y := by
  unfold getR setR
  simp [h]
theorem nyx : ¬ ny = nx := by decide
theorem nxy : ¬ nx = ny := by decide
/-- Three records are read. -/
theorem reads_three (h : Hst) (r : RdS) (hok : h.ok = [evA, evB, evC]) (hq : r.q = 0) : ∃ m, readTo h r 3 = ⟨3, m, r.lost + 1, app evC (app evB r.τ)⟩ := by
  refine ⟨markR (h.rs.getD 2 recZ), ?_⟩
  show readOne h (readOne h (readOne h r)) = _
  rw [readOne_yes (h := h) (r := r) (by rw [hok, hq]; exact ls30), hq]
  rw [readOne_no (h := h) (r := ⟨0 + 1, _, _, _⟩) (by rw [hok]; exact ls31)]
  rw [readOne_no (h := h) (r := ⟨0 + 1 + 1, _, _, _⟩) (by rw [hok]; exact ls32)]
  simp only [hok]
  rfl
theorem reads_two (h : Hst) (r : RdS) (hok : h.ok = [evA, evB, evC]) (hq : r.q = 1) : ∃ m, readTo h r 2 = ⟨3, m, r.lost, app evC (app evB r.τ)⟩ := by
  refine ⟨markR (h.rs.getD 2 recZ), ?_⟩
  show readOne h (readOne h r) = _
  rw [readOne_no (h := h) (r := r) (by rw [hok, hq]; exact ls31), hq]
  rw [readOne_no (h := h) (r := ⟨1 + 1, _, _, _⟩) (by rw [hok]; exact ls32)]
  simp only [hok]
  rfl
theorem reads_one (h : Hst) (r : RdS) (hok : h.ok = [evA]) (hq : r.q = 0) : ∃ m, readTo h r 1 = ⟨1, m, r.lost, app evA r.τ⟩ := by
  refine ⟨markR (h.rs.getD 0 recZ), ?_⟩
  show readOne h r = _
  rw [readOne_no (h := h) (r := r) (by rw [hok, hq]; exact ls1), hq]
  simp only [hok]
  rfl
/-- A reader reads up to nine. -/
theorem read_ans {s : DeskS} {nm : ByteArray} {l : List UInt8} (hw : wordsB (textL l) = [wread, nm, n9]) (r r2 : RdS) (n k : Nat) (hg : getR s nm = r) (hn : min (9 : Int).toNat s.h.ok.length - r.q = n) (hr : readTo s.h r n = r2) (hk : r2.q = k) (hq : (toldL wread ([itoaN k].map textL)).length ≤ 1000000000) :
    AnsOf ObD s l (textL (toldL wread ([itoaN k].map textL))) (setR s nm r2) := by
  subst hk
  refine ans_of hw ?_ hq
  have h := obey_nine (s := s) (nm := nm)
  unfold readR at h
  simp only at h
  rw [show at_ [nm, n9] 0 = nm from rfl, hg, hn, hr] at h
  exact h
theorem rows_ans {s : DeskS} {nm : ByteArray} {l : List UInt8} (hw : wordsB (textL l) = [wrows, nm]) {r : RdS} (hr : getR s nm = r) (ho : InOrd r.τ [cellBag]) : AnsOf ObD s l (textL (toldL wrows (([cellBag].map rowL).map textL))) (setR s nm r) := by
  refine ans_of hw (obey_plain fo_rows (.inr rfl) (.inr (.inr (.inr (.inr (.inl ⟨rfl, [cellBag], ?_, ?_⟩)))))) (by decide +kernel)
  · rw [show at_ [nm] 0 = nm from rfl, hr]
    exact ho
  · rw [show at_ [nm] 0 = nm from rfl, hr]
    rfl
theorem lost_ans {s : DeskS} {nm : ByteArray} {l : List UInt8} (hw : wordsB (textL l) = [wlost, nm]) {r : RdS} (hr : getR s nm = r) (k : Nat) (hk : r.lost = k) (hq : (toldL wlost ([itoaN k].map textL)).length ≤ 1000000000) : AnsOf ObD s l (textL (toldL wlost ([itoaN k].map textL))) (setR s nm r) := by
  subst hk
  refine ans_of hw (obey_plain fo_lost (.inr rfl) (.inr (.inr (.inr (.inr (.inr (.inl ⟨rfl, ?_⟩))))))) hq
  rw [show at_ [nm] 0 = nm from rfl, hr]
  rfl
def bytesA : List UInt8 := toldL wput ([itoaN (0 + 1), itoaN 1, itoaN 36].map textL) ++ 10 :: (toldL wread ([itoaN 1].map textL) ++ 10 :: (toldL wput ([itoaN (1 + 1), itoaN 1, itoaN 34].map textL) ++ 10 :: (toldL wgone ([itoaN (2 + 1), itoaN 0, itoaN 8].map textL) ++ 10 :: (toldL wread ([itoaN 3].map textL) ++ 10 :: (toldL wread ([itoaN 3].map textL) ++ 10 :: (toldL wrows (([cellBag].map rowL).map textL) ++ 10 :: (toldL wrows (([cellBag].map rowL).map textL) ++ 10 :: (toldL wlost ([itoaN 0].map textL) ++ 10 :: (toldL wlost ([itoaN 1].map textL) ++ 10 :: (toldL wcells (([cellBag].map rowL).map textL) ++ 10 :: (toldL wsubj ([bobD.data.toList].map textL) ++ 10 :: (toldL ⟨#[101, 114, 114, 111, 114]⟩ [textL (Lib.itoa 3)] ++ 10 :: []))))))))))))
theorem bytes_A : bytesA = toldAll := by decide +kernel
theorem fix_run : ∃ s, RunsTo (fun s l o s' => AnsOf ObD s l (textL o) s') (desk0 secD) linesA toldAll s := by
  rw [← bytes_A]
  unfold bytesA linesA
  -- put ann
  have h1 := fix_happen (s := desk0 secD) (x := wput) (xs := [annD, mailD, boxD, ⟨#[97]⟩, ⟨#[98]⟩]) (e := evA) (g := 1) (z := 36) ft1 fa1 does1 (by decide) sound0 (by decide +kernel) (by decide +kernel)
  have a1 : AnsOf ObD (desk0 secD) _ _ _ := ans_of fw1 (obey_plain fo_put (.inl rfl) (.inr (.inl ⟨rfl, h1.symm⟩))) (by decide +kernel)
  clear h1
  change AnsOf ObD (desk0 secD) _ (textL (toldL wput ([itoaN (0 + 1), itoaN 1, itoaN 36].map textL))) ⟨secD, ⟨σA, τA, [] ++ [tellR secD kept0 [] evA], [evA]⟩, fun _ => none, none, 0⟩ at a1
  obtain ⟨R1, e1, n1⟩ : ∃ R1, [] ++ [tellR secD kept0 [] evA] = R1 ∧ R1.length = 1 := ⟨_, rfl, rfl⟩
  rw [e1] at a1
  clear e1
  -- read x
  obtain ⟨m1, q1⟩ := reads_one ⟨σA, τA, R1, [evA]⟩ rd0 rfl rfl
  have a2 := read_ans (s := ⟨secD, ⟨σA, τA, R1, [evA]⟩, fun _ => none, none, 0⟩) (nm := nx) fw2 rd0 _ 1 1 rfl rfl q1 rfl (by decide +kernel)
  clear q1
  -- put bob
  generalize hd1 : setR ⟨secD, ⟨σA, τA, R1, [evA]⟩, fun _ => none, none, 0⟩ nx ⟨1, m1, rd0.lost, app evA rd0.τ⟩ = s2 at a2
  have hx2 : getR s2 nx = ⟨1, m1, 0, τA⟩ := by rw [← hd1, get_set]; rfl
  have hy2 : getR s2 ny = rd0 := by rw [← hd1, get_ne nyx]; rfl
  obtain ⟨rd, c, e2⟩ : ∃ rd c, s2 = ⟨secD, ⟨σA, τA, R1, [evA]⟩, rd, none, c⟩ := ⟨_, _, hd1.symm⟩
  clear hd1
  subst e2
  have h3 := fix_happen (s := ⟨secD, ⟨σA, τA, R1, [evA]⟩, rd, none, c⟩) (x := wput) (xs := [bobD, mailD, bagD, ⟨#[99]⟩]) (e := evB) (g := 1) (z := 34) ft3 fa3 does2 (by show R1.length < 100; omega) soundA tg2 (by decide +kernel)
  have a3 := ans_of fw3 (obey_plain fo_put (.inl rfl) (.inr (.inl ⟨rfl, h3.symm⟩))) (by simp only [n1]; decide +kernel)
  clear h3
  simp only [n1] at a3
  change AnsOf ObD _ _ (textL (toldL wput ([itoaN (1 + 1), itoaN 1, itoaN 34].map textL))) ⟨secD, ⟨σB, τB, R1 ++ [tellR secD σA R1 evB], [evA, evB]⟩, rd, none, c⟩ at a3
  obtain ⟨R2, e3, n2⟩ : ∃ R2, R1 ++ [tellR secD σA R1 evB] = R2 ∧ R2.length = 2 := ⟨_, rfl, by simp [n1]⟩
  rw [e3] at a3
  clear e3
  -- gone ann
  have h4 := fix_happen (s := ⟨secD, ⟨σB, τB, R2, [evA, evB]⟩, rd, none, c⟩) (x := wgone) (xs := [annD]) (e := evC) (g := 0) (z := 8) ft4 fa4 does3 (by show R2.length < 100; omega) soundB rfl (by decide +kernel)
  have a4 := ans_of fw4 (obey_plain fo_gone (.inl rfl) (.inr (.inl ⟨rfl, h4.symm⟩))) (by simp only [n2]; decide +kernel)
  clear h4
  simp only [n2] at a4
  change AnsOf ObD _ _ (textL (toldL wgone ([itoaN (2 + 1), itoaN 0, itoaN 8].map textL))) ⟨secD, ⟨σC, τC, R2 ++ [tellR secD σB R2 evC], [evA, evB, evC]⟩, rd, none, c⟩ at a4
  generalize R2 ++ [tellR secD σB R2 evC] = R3 at a4
  have hx4 : getR ⟨secD, ⟨σC, τC, R3, [evA, evB, evC]⟩, rd, none, c⟩ nx = ⟨1, m1, 0, τA⟩ := hx2
  have hy4 : getR ⟨secD, ⟨σC, τC, R3, [evA, evB, evC]⟩, rd, none, c⟩ ny = rd0 := hy2
  -- read x, y
  obtain ⟨m5, q5⟩ := reads_two ⟨σC, τC, R3, [evA, evB, evC]⟩ ⟨1, m1, 0, τA⟩ rfl rfl
  have a5 := read_ans (s := ⟨secD, ⟨σC, τC, R3, [evA, evB, evC]⟩, rd, none, c⟩) (nm := nx) fw2 _ _ 2 3 hx4 rfl q5 rfl (by decide +kernel)
  clear q5
  generalize hd5 : setR ⟨secD, ⟨σC, τC, R3, [evA, evB, evC]⟩, rd, none, c⟩ nx ⟨3, m5, 0, app evC (app evB τA)⟩ = s5 at a5
  have hx5 : getR s5 nx = ⟨3, m5, 0, τC⟩ := by rw [← hd5, get_set]; rfl
  have hy5 : getR s5 ny = rd0 := by rw [← hd5, get_ne nyx, hy4]
  have hh5 : s5.h = ⟨σC, τC, R3, [evA, evB, evC]⟩ := by rw [← hd5]; rfl
  clear hd5
  obtain ⟨m6, q6⟩ := reads_three s5.h rd0 (by rw [hh5]) rfl
  have a6 := read_ans (s := s5) (nm := ny) fw6 _ _ 3 3 hy5 (by rw [hh5]; rfl) q6 rfl (by decide +kernel)
  clear q6
  generalize hd6 : setR s5 ny ⟨3, m6, rd0.lost + 1, app evC (app evB rd0.τ)⟩ = s6 at a6
  have hx6 : getR s6 nx = ⟨3, m5, 0, τC⟩ := by rw [← hd6, get_ne nxy, hx5]
  have hy6 : getR s6 ny = ⟨3, m6, 1, app evC (app evB tab0)⟩ := by rw [← hd6, get_set]; rfl
  have hh6 : s6.h = ⟨σC, τC, R3, [evA, evB, evC]⟩ := by rw [← hd6]; exact hh5
  clear hd6
  -- rows
  have a7 := rows_ans (s := s6) fw7 hx6 (one_row rows_C)
  generalize hd7 : setR s6 nx ⟨3, m5, 0, τC⟩ = s7 at a7
  have hx7 : getR s7 nx = ⟨3, m5, 0, τC⟩ := by rw [← hd7, get_set]
  have hy7 : getR s7 ny = ⟨3, m6, 1, app evC (app evB tab0)⟩ := by rw [← hd7, get_ne nyx, hy6]
  have hh7 : s7.h = ⟨σC, τC, R3, [evA, evB, evC]⟩ := by rw [← hd7]; exact hh6
  clear hd7
  have a8 := rows_ans (s := s7) fw8 hy7 (one_row rows_Y)
  generalize hd8 : setR s7 ny ⟨3, m6, 1, app evC (app evB tab0)⟩ = s8 at a8
  have hx8 : getR s8 nx = ⟨3, m5, 0, τC⟩ := by rw [← hd8, get_ne nxy, hx7]
  have hy8 : getR s8 ny = ⟨3, m6, 1, app evC (app evB tab0)⟩ := by rw [← hd8, get_set]
  have hh8 : s8.h = ⟨σC, τC, R3, [evA, evB, evC]⟩ := by rw [← hd8]; exact hh7
  clear hd8
  -- lost
  have a9 := lost_ans (s := s8) fw9 hx8 0 rfl (by decide +kernel)
  generalize hd9 : setR s8 nx ⟨3, m5, 0, τC⟩ = s9 at a9
  have hy9 : getR s9 ny = ⟨3, m6, 1, app evC (app evB tab0)⟩ := by rw [← hd9, get_ne nyx, hy8]
  have hh9 : s9.h = ⟨σC, τC, R3, [evA, evB, evC]⟩ := by rw [← hd9]; exact hh8
  clear hd9
  have a10 := lost_ans (s := s9) fw10 hy9 1 rfl (by decide +kernel)
  generalize hd10 : setR s9 ny ⟨3, m6, 1, app evC (app evB tab0)⟩ = s10 at a10
  have hh10 : s10.h = ⟨σC, τC, R3, [evA, evB, evC]⟩ := by rw [← hd10]; exact hh9
  clear hd10
  -- cells, subjects
  have a11 : AnsOf ObD s10 [99, 101, 108, 108, 115] (textL (toldL wcells (([cellBag].map rowL).map textL))) s10 := ans_of fw11 (obey_plain fo_cells (.inr rfl) (.inr (.inr (.inl ⟨rfl, [cellBag], by rw [hh10]; exact one_row rows_C, rfl⟩)))) (by decide +kernel)
  have a12 : AnsOf ObD s10 [115, 117, 98, 106, 101, 99, 116, 115] (textL (toldL wsubj ([bobD.data.toList].map textL))) s10 := ans_of fw12 (obey_plain fo_subj (.inr rfl) (.inr (.inr (.inr (.inr (.inr (.inr (.inr (.inr (.inr (.inr (.inl ⟨rfl, [bobD.data.toList], by rw [hh10]; exact order_C, rfl⟩)))))))))))) (by decide +kernel)
  -- x
  have a13 : AnsOf ObD s10 [120] (textL (toldL ⟨#[101, 114, 114, 111, 114]⟩ [textL (Lib.itoa 3)])) s10 := ans_no (n := 3) fw13 (by unfold ObeyR; rw [fo_x]) (by decide)
  exact ⟨s10, RunsTo.cons a1 (RunsTo.cons a2 (RunsTo.cons a3 (RunsTo.cons a4 (RunsTo.cons a5 (RunsTo.cons a6 (RunsTo.cons a7 (RunsTo.cons a8 (RunsTo.cons a9 (RunsTo.cons a10 (RunsTo.cons a11 (RunsTo.cons a12 (RunsTo.cons a13 (RunsTo.none s10)))))))))))))⟩
theorem fix_told (out : List UInt8) (s : DeskS) (h : RunsTo (fun s l o s' => AnsOf ObD s l (textL o) s') (desk0 secD) (linesN askedL) out s) : out = toldAll := by
  rw [asked_lines] at h
  obtain ⟨t, k⟩ := fix_run
  refine (RunsTo.eq ?_ h k).1
  intro s l o s' o' s'' h k
  unfold AnsOf at h k
  cases hw : wordsB (textL l) with
  | nil =>
    rw [hw] at h k
    have e : textL o = textL o' := h.1.trans k.1.symm
    exact ⟨by simpa [textL] using e, h.2.trans k.2.symm⟩
  | cons x xs =>
    rw [hw] at h k
    obtain ⟨e, e2⟩ := ObD.eq h k
    exact ⟨by simpa [textL] using e, e2⟩
/-- The law, over any world that bears the variables. -/
theorem pieces_law (a b : ByteArray) (w : World) (hV : Vars w) : Calls Tryz.prog 3 #[.string a, .string b] w fun e w' => e = .returned (.bool true) ∧ Below lowK w w' :=
  pieces_told all_orders (desk0 secD) desk_starts rfl fix_told a b w hV
end Go.Proofs.YtdjpghgnjcmdnaaGreatDoor
