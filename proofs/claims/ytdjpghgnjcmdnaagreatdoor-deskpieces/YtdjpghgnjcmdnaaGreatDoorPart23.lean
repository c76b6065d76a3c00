/- Texts of this proof, one behind the other. -/
import Derived.Test.YtdjpghgnjcmdnaaGreatDoorProg
import Derived.Shelf.SlSortCmp.WholeK
import Derived.Shelf.SlSortCmp.NoneTotal
import Derived.Shelf.Small.Strs
import Derived.Deep.RegionHeld3
import Derived.Deep.DrawnRows
import Derived.Deep.QuietTactic
import Derived.BigQuiet
import Derived.Test.YtdjpghgnjcmdnaaGreatDoorPart22
/- The library's own functions at this program: strings.Compare, slices.SortFunc, ContainsFunc, Contains, Equal, Clone: the tables of numbers. -/
namespace Go.Proofs.YtdjpghgnjcmdnaaGreatDoor
open Go.Shelf
def laysCompare_ren : Go.Shelf.Ren := ⟨fun | 106 => 130 | 213 => 169 | 265 => 213 | n => n, fun | 9 => 9 | 3 => 3 | n => n, fun | n => n⟩
theorem laysCompare : Go.Proofs.Lays.n106 Tryz.prog laysCompare_ren := {
  mixed := by kernel_rfl
  f106 := Tryz.func130.trans (congrArg some (by kernel_rfl))
  f213 := Tryz.func169.trans (congrArg some (by kernel_rfl))
  f265 := Tryz.func213.trans (congrArg some (by kernel_rfl))
  t3 := Tryz.underlying3
  a3 := Tryz.isAgg3
  z3 := Tryz.sizeOf3
  v3 := Tryz.zeroValue3
  t9 := Tryz.underlying9
  a9 := Tryz.isAgg9
  z9 := Tryz.sizeOf9
  v9 := Tryz.zeroValue9 }
def laysSort_ren : Go.Shelf.Ren := ⟨fun | 6 => 160 | 15 => 133 | 14 => 208 | 28 => 181 | 29 => 144 | 20 => 229 | 21 => 230 | 22 => 231 | 23 => 232 | 24 => 233 | 25 => 234 | 26 => 235 | 27 => 236 | 46 => 239 | 47 => 215 | 48 => 216 | 49 => 240 | 50 => 241 | 57 => 242 | n => n, fun | 22 => 30 | 24 => 129 | 25 => 136 | 3 => 3 | 39 => 139 | 0 => 0 | 53 => 149 | 55 => 114 | 4 => 4 | 46 => 236 | 45 => 235 | 50 => 240 | 5 => 5 | 9 => 9 | 66 => 285 | 70 => 289 | 76 => 305 | 77 => 306 | n => n, fun | n => n⟩
theorem laysSort : Go.Proofs.SlLaysF0.n6 Tryz.prog laysSort_ren := {
  mixed := by kernel_rfl
  f6 := ⟨Tryz.f160.name, by decide, Tryz.func160.trans (congrArg some (by kernel_rfl))⟩
  f14 := ⟨Tryz.f208.name, by decide, Tryz.func208.trans (congrArg some (by kernel_rfl))⟩
  f15 := Tryz.func133.trans (congrArg some (by kernel_rfl))
  f20 := ⟨Tryz.f229.name, by decide, Tryz.func229.trans (congrArg some (by kernel_rfl))⟩
  f21 := ⟨Tryz.f230.name, by decide, Tryz.func230.trans (congrArg some (by kernel_rfl))⟩
  f22 := ⟨Tryz.f231.name, by decide, Tryz.func231.trans (congrArg some (by kernel_rfl))⟩
  f23 := ⟨Tryz.f232.name, by decide, Tryz.func232.trans (congrArg some (by kernel_rfl))⟩
  f24 := ⟨Tryz.f233.name, by decide, Tryz.func233.trans (congrArg some (by kernel_rfl))⟩
  f25 := ⟨Tryz.f234.name, by decide, Tryz.func234.trans (congrArg some (by kernel_rfl))⟩
  f26 := ⟨Tryz.f235.name, by decide, Tryz.func235.trans (congrArg some (by kernel_rfl))⟩
  f27 := ⟨Tryz.f236.name, by decide, Tryz.func236.trans (congrArg some (by kernel_rfl))⟩
  f28 := Tryz.func181.trans (congrArg some (by kernel_rfl))
  f29 := Tryz.func144.trans (congrArg some (by kernel_rfl))
  f46 := ⟨Tryz.f239.name, by decide, Tryz.func239.trans (congrArg some (by kernel_rfl))⟩
  f47 := Tryz.func215.trans (congrArg some (by kernel_rfl))
  f48 := Tryz.func216.trans (congrArg some (by kernel_rfl))
  f49 := ⟨Tryz.f240.name, by decide, Tryz.func240.trans (congrArg some (by kernel_rfl))⟩
  f50 := ⟨Tryz.f241.name, by decide, Tryz.func241.trans (congrArg some (by kernel_rfl))⟩
  f57 := ⟨Tryz.f242.name, by decide, Tryz.func242.trans (congrArg some (by kernel_rfl))⟩
  t0 := Tryz.underlying0
  a0 := Tryz.isAgg0
  z0 := Tryz.sizeOf0
  v0 := Tryz.zeroValue0
  t3 := Tryz.underlying3
  a3 := Tryz.isAgg3
  z3 := Tryz.sizeOf3
  v3 := Tryz.zeroValue3
  t4 := Tryz.underlying4
  a4 := Tryz.isAgg4
  z4 := Tryz.sizeOf4
  v4 := Tryz.zeroValue4
  t5 := Tryz.underlying5
  a5 := Tryz.isAgg5
  z5 := Tryz.sizeOf5
  v5 := Tryz.zeroValue5
  t9 := Tryz.underlying9
  a9 := Tryz.isAgg9
  z9 := Tryz.sizeOf9
  v9 := Tryz.zeroValue9
  t22 := Tryz.underlying30
  a22 := Tryz.isAgg30
  z22 := Tryz.sizeOf30
  v22 := Tryz.zeroValue30
  t25 := Tryz.underlying136
  a25 := Tryz.isAgg136
  z25 := Tryz.sizeOf136
  v25 := Tryz.zeroValue136
  t39 := Tryz.underlying139
  a39 := Tryz.isAgg139
  z39 := Tryz.sizeOf139
  v39 := Tryz.zeroValue139
  t45 := Tryz.underlying235
  a45 := Tryz.isAgg235
  z45 := Tryz.sizeOf235
  v45 := Tryz.zeroValue235
  t46 := Tryz.underlying236
  a46 := Tryz.isAgg236
  z46 := Tryz.sizeOf236
  v46 := Tryz.zeroValue236
  t50 := Tryz.underlying240
  a50 := Tryz.isAgg240
  z50 := Tryz.sizeOf240
  v50 := Tryz.zeroValue240
  t53 := Tryz.underlying149
  a53 := Tryz.isAgg149
  z53 := Tryz.sizeOf149
  v53 := Tryz.zeroValue149
  t55 := Tryz.underlying114
  a55 := Tryz.isAgg114
  z55 := Tryz.sizeOf114
  v55 := Tryz.zeroValue114
  t66 := Tryz.underlying285
  a66 := Tryz.isAgg285
  z66 := Tryz.sizeOf285
  v66 := Tryz.zeroValue285
  t70 := Tryz.underlying289
  a70 := Tryz.isAgg289
  z70 := Tryz.sizeOf289
  v70 := Tryz.zeroValue289
  t76 := Tryz.underlying305
  a76 := Tryz.isAgg305
  z76 := Tryz.sizeOf305
  v76 := Tryz.zeroValue305
  t77 := Tryz.underlying306
  a77 := Tryz.isAgg306
  z77 := Tryz.sizeOf306
  v77 := Tryz.zeroValue306 }
end Go.Proofs.YtdjpghgnjcmdnaaGreatDoor

/- The order of cells: cmp.Or, and the program's own Compare. -/
namespace Go.Proofs.YtdjpghgnjcmdnaaGreatDoor
open Go.RowKit Go.Sort
attribute [local go_sem ↓] Go.wp_at_zero Go.wp_at_succ
set_option linter.unusedSectionVars false
variable [Inhabited Cl]
def orI (x y : Int) : Int := if x ≠ 0 then x else y
set_option maxRecDepth 100000 in
set_option maxHeartbeats 1000000 in
theorem or_any (b : Nat) (x y : Int) (w : World) (h0 : w.cell? ⟨b, 0, none⟩ = some (.int .i64 x)) (h1 : w.cell? ⟨b, 1, none⟩ = some (.int .i64 y)) :
    Calls Tryz.prog 129 #[.slice (some ⟨b, 0, none⟩) 2 2] w fun e w' => e = .returned (.int .i64 (orI x y)) ∧ w' = w := by
  unfold orI
  by_cases hx : x = 0
  · rw [if_neg (by simpa using hx)]
    subst hx
    by_cases hy : y = 0
    · subst hy
      go_enter Tryz.func129, Tryz.ntmps129
      go_wp2
      refine wp_loop_rounds 3 ?_
      rw [rounds_succ]
      go_wp2
      rw [rounds_succ]
      go_wp2
      rw [rounds_succ]
      go_wp2
      go_ret
      exact ⟨rfl, rfl⟩
    · go_enter Tryz.func129, Tryz.ntmps129
      go_wp2
      refine wp_loop_rounds 2 ?_
      rw [rounds_succ]
      go_wp2
      rw [rounds_succ]
      go_wp2
      go_ret
      exact ⟨rfl, rfl⟩
  · rw [if_pos hx]
    go_enter Tryz.func129, Tryz.ntmps129
    go_wp2
    refine wp_loop_rounds 1 ?_
    rw [rounds_succ]
    go_wp2
    go_ret
    exact ⟨rfl, rfl⟩
theorem strCompare (a b : ByteArray) (w : World) : Calls Tryz.prog 130 #[.string a, .string b] w fun e w' => e = .returned (.int .i64 (Lib.compareBytes a.data.toList b.data.toList)) ∧ w' = w :=
  Any.strings_Compare (ρ := laysCompare_ren) laysCompare a b w
theorem cmpC_is (x y : Cl) : orI (Lib.compareBytes x.t.data.toList y.t.data.toList) (Lib.compareBytes x.r.data.toList y.r.data.toList) = cmpC x y := rfl
set_option maxRecDepth 100000 in
set_option maxHeartbeats 2000000 in
theorem compare_any (x y : Cl) (W : World) :
    Calls Tryz.prog 89 #[.agg #[.string x.t, .string x.r, .string x.s, .string x.v], .agg #[.string y.t, .string y.r, .string y.s, .string y.v]] W fun e w' => e = .returned (.int .i64 (cmpC x y)) ∧ ∃ q os', w' = grow (W.drewN q) os' := by
  have T := hide (fun wx => strCompare x.t y.t wx)
  have R := hide (fun wx => strCompare x.r y.r wx)
  rw [← cmpC_is]
  generalize Lib.compareBytes x.t.data.toList y.t.data.toList = a at T ⊢
  generalize Lib.compareBytes x.r.data.toList y.r.data.toList = b at R ⊢
  have hrow : HasR (((W.alloc (.cells #[.string x.t, .string x.r, .string x.s, .string x.v] 129)).alloc (.cells #[.string y.t, .string y.r, .string y.s, .string y.v] 129)).alloc (.cells #[.int .i64 a, .int .i64 b] 3)).drew (W.heap.size + 1 + 1) 3 #[.int .i64 a, .int .i64 b] :=
    (HasR.new' (by simp) 3 _).drew
  have O := hide (or_any (W.heap.size + 1 + 1) a b _ (hrow.cell 0) (hrow.cell 1))
  clear hrow
  generalize orI a b = o at O ⊢
  go_enter Tryz.func89, Tryz.ntmps89
  go_wp2
  go_region_held3 (fun wx => wx.cell? ⟨W.heap.size, 0, none⟩ = some (.string x.t) ∧ wx.cell? ⟨W.heap.size, 1, none⟩ = some (.string x.r) ∧ wx.cell? ⟨W.heap.size + 1, 0, none⟩ = some (.string y.t) ∧ wx.cell? ⟨W.heap.size + 1, 1, none⟩ = some (.string y.r)) (go_keep)
    (first
    | (go_at_call 130; (with_reducible refine (T.out _).mono ?_); rintro e w1 ⟨rfl, rfl⟩)
    | (go_at_call 130; (with_reducible refine (R.out _).mono ?_); rintro e w1 ⟨rfl, rfl⟩)
    | (go_at_call 129; (with_reducible refine O.out.mono ?_); rintro e w1 ⟨rfl, rfl⟩))
  go_wp2
  go_ret
  exact ⟨rfl, 1, _, by rw [alloc_eq_grow, alloc_eq_grow, alloc_eq_grow, grow_grow, grow_grow]; rfl⟩
/-- What it says to the sort. -/
theorem ltOf_cmpC : ltOf cmpC = ltC := by
  funext a b
  exact cmpC_lt a b
theorem cmpLays (blk off size : Nat) (w : World) : CmpLays Tryz.prog 89 #[] cellL 4 cmpC blk off size w := fun _ _ _ _ x y => compare_any x y _
end Go.Proofs.YtdjpghgnjcmdnaaGreatDoor

/- Cells in a row of memory: the program's own sort of them. -/
namespace Go.Proofs.YtdjpghgnjcmdnaaGreatDoor
open Go.RowKit Go.Sort
set_option linter.unusedSectionVars false
variable [Inhabited Cl]
set_option maxRecDepth 100000 in
theorem sort_any (base : Nat) (v : Value) (cs : List Cl) (σ : Tab) (w : World) (hr : RowC w base v cs) (ha : AllOf σ cs) (hl : cs.length ≤ 1000) :
    Calls Tryz.prog 160 #[v, .func (.func 89) #[] #[]] w fun e w' => e = .returned (.tuple #[]) ∧ ∃ ds, InOrd σ ds ∧ ds.length = cs.length ∧ RowC w' base v ds ∧ Below base w w' := by
  rcases hr with ⟨rfl, rfl⟩ | ⟨g, cap, rfl, hb, hg, h1, h2, h3⟩
  · refine (AnyF.slices_SortFunc_none (ρ := laysSort_ren) laysSort none 0 (.func (.func 89) #[] #[]) w).mono ?_
    rintro e w' ⟨rfl, rfl⟩
    exact ⟨rfl, [], inOrd_short ha.2 (by simp), rfl, .inl ⟨rfl, rfl⟩, Below.refl _ _⟩
  · have eg : ∀ args w, (callFunc 89 args).run Tryz.prog w = .ok (.enter 89 args) w := enters_of Tryz.func89 (by kernel_rfl) rfl
    have hcon := AnyQ.slices_SortFunc (ρ := laysSort_ren) laysSort 4 isAgg42 sizeOf42 cellL (fun _ => rfl) cellL_one cmpC (by rw [ltOf_cmpC]; exact swo_ltC) 89 #[] g 0 cap cs.toArray w eg (cmpLays g 0 _ w) h3 hg (by rw [List.size_toArray]; omega)
    rw [ltOf_cmpC, List.size_toArray] at hcon
    refine hcon.mono ?_
    rintro e w' ⟨rfl, d', n, os, hp, hs, rfl⟩
    have hsz : d'.size = cs.length := by have := hp.1; simpa using this
    have hlen : d'.toList.length = cs.length := by simpa using hsz
    refine ⟨rfl, d'.toList, inOrd_of_sorted ha.1 ha.2 (by simpa using hp) (by simpa using hs), hlen, .inr ⟨g, cap, by rw [hlen], hb, ?_, by rw [hlen]; exact h1, h2, ?_⟩, below_sortWorld hb hg⟩
    · have := (below_sortWorld (w := w) (n := n) (d := d') (os := os) (Nat.le_refl g) hg).size
      omega
    · have h5 : HoldsK cellL 4 (putRowK cellL 4 (Sort.ahead w n) g 0 d') g 0 d' := holdsK_putRowK cellL 4 (Sort.ahead w n) g 0 cs.toArray d' (holdsK_ahead _ _ _ _ _ _ _ h3) (by rw [List.size_toArray]; exact hsz)
      have h6 := holdsK_grow cellL 4 (putRowK cellL 4 (Sort.ahead w n) g 0 d') os g 0 d' (by simp [putRowK, putRow, mapBlock, Sort.ahead]; exact hg) h5
      simpa [sortWorldK] using h6
end Go.Proofs.YtdjpghgnjcmdnaaGreatDoor

/- A table's rows, in order: SortedFunc, and the program's own Cells. -/
namespace Go.Proofs.YtdjpghgnjcmdnaaGreatDoor
open Go.RowKit Go.Maps Go.Sort
attribute [local go_sem ↓] Go.wp_at_zero Go.wp_at_succ
set_option linter.unusedSectionVars false
variable [Inhabited Cl]
theorem seq_any (b : Nat) (ty : TypeId) (pre : Array Value) (mo : Option Nat) (n : Nat) (σ : Tab) (w : World) (hV : TabV w b ty pre mo n σ) :
    ∃ N, N ≤ n ∧ SeqGives Fence.wide 1 Tryz.prog 161 #[.pointer (some ⟨w.heap.size, 0, none⟩)] cellV (fun cs => AllOf σ cs ∧ cs.length ≤ N) N (w.alloc (.cells #[.map mo] 108)) := by
  cases mo with
  | none =>
    rw [hV.none rfl]
    exact ⟨0, Nat.zero_le _, values_gives_nil Fence.wide 1 trivial rfl w.heap.size _ (by simp) (by simp)⟩
  | some m =>
    obtain ⟨D, ho, hR⟩ := hV.held m rfl
    exact ⟨Maps.size D, ho.size_le, values_gives Fence.wide 1 trivial rfl (Nat.le_refl _) w.heap.size m n D σ hR _ (by simp) (by simp) (ho.alloc _)⟩
set_option maxRecDepth 100000 in
set_option maxHeartbeats 1000000 in
theorem sorted_any (b : Nat) (ty : TypeId) (pre : Array Value) (mo : Option Nat) (n : Nat) (σ : Tab) (w : World) (hn : n ≤ 1000) (hV : TabV w b ty pre mo n σ) :
    Calls Tryz.prog 123 #[.func (.func 161) #[] #[.pointer (some ⟨w.heap.size, 0, none⟩)], .func (.func 89) #[] #[]] (w.alloc (.cells #[.map mo] 108)) fun e w' => ∃ v ds, e = .returned v ∧ InOrd σ ds ∧ ds.length ≤ n ∧ RowC w' (w.heap.size + 1) v ds ∧ Below (w.heap.size + 1) (w.alloc (.cells #[.map mo] 108)) w' := by
  obtain ⟨N, hN, hseq⟩ := seq_any b ty pre mo n σ w hV
  have C := hide (callsIn_wide.1 (collect_in Fence.wide 3 trivial trivial rfl (by omega) 161 #[.pointer (some ⟨w.heap.size, 0, none⟩)] trivial (enters_of Tryz.func161 (by kernel_rfl) rfl) _ N (by omega) (w.alloc (.cells #[.map mo] 108)) hseq))
  have hs : (w.alloc (.cells #[.map mo] 108)).heap.size = w.heap.size + 1 := by simp
  rw [hs] at C
  generalize w.alloc (.cells #[.map mo] 108) = W at C hs hseq ⊢
  clear hseq hV hs
  go_enter Tryz.func123, Tryz.ntmps123
  go_wp2_with (first
    | (go_at_call 159; (with_reducible refine C.out.mono ?_); rintro e w1 ⟨v, cs, rfl, ⟨ha, hl⟩, hrow, hnil, hb1⟩
       have S := hide (sort_any (w.heap.size + 1) v cs σ w1 (RowC.of_owns hrow) ha (by omega)))
    | (go_at_call 160; (with_reducible refine S.out.mono ?_); rintro e w2 ⟨rfl, ds, ho, hn2, hr, hb2⟩))
  go_ret
  exact ⟨v, ds, rfl, ho, by omega, hr, hb1.trans hb2⟩
set_option maxRecDepth 100000 in
set_option maxHeartbeats 1000000 in
/-- Cells: all rows, in order, in memory of the call's own. -/
theorem cells_any (b : Nat) (ty : TypeId) (pre : Array Value) (mo : Option Nat) (n : Nat) (σ : Tab) (w : World) (hn : n ≤ 1000) (hV : TabV w b ty pre mo n σ) :
    Calls Tryz.prog 81 #[.pointer (some ⟨b, pre.size, none⟩)] w fun e w' => ∃ v ds, e = .returned v ∧ InOrd σ ds ∧ ds.length ≤ n ∧ RowC w' w.heap.size v ds ∧ Below w.heap.size w w' := by
  have hq := ptr_nil b pre.size
  have c1 : w.cell? ⟨b, pre.size, none⟩ = some (.map mo) := hV.cell
  have K := hide (callsIn_wide.1 (values_in Fence.wide 1 trivial rfl mo w))
  have S := hide (sorted_any b ty pre mo n σ w hn hV)
  have bel : Below w.heap.size w (w.alloc (.cells #[.map mo] 108)) := (Below.refl _ w).alloc (Nat.le_refl _) _
  clear hV
  go_enter Tryz.func81, Tryz.ntmps81
  go_wp2_with (first
    | (go_at_call 124; (with_reducible refine K.out.mono ?_); rintro e w1 ⟨rfl, rfl⟩)
    | (go_at_call 123; (with_reducible refine S.out.mono ?_); rintro e w2 ⟨v, ds, rfl, ho, hn2, hr, hb2⟩))
  go_ret
  exact ⟨v, ds, rfl, ho, hn2, hr.mono (by omega), bel.trans (hb2.mono (by omega))⟩
end Go.Proofs.YtdjpghgnjcmdnaaGreatDoor
