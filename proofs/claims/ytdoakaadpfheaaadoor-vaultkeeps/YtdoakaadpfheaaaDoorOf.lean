/- What the program's vault has of a subject, and keeps of it. -/
import Derived.Test.YtdoakaadpfheaaaDoorStirred
import Derived.Deep.RegionHeld3
import Derived.Deep.DrawnRows
import Derived.Deep.QuietTactic
import Derived.BigQuiet
namespace Go.Proofs.YtdoakaadpfheaaaDoor
open Go.RowKit Go.Maps
attribute [local go_sem ↓] Go.wp_at_zero Go.wp_at_succ
set_option maxRecDepth 100000 in
set_option maxHeartbeats 1000000 in
theorem of_any (b : Nat) (mo : Option Nat) (sec s : ByteArray) (n : Nat) (σ : Kept) (w : World) (hs : s.size ≤ 60) (hV : ProgV w b mo sec n σ) :
    Calls Tryd.prog 63 #[.pointer (some ⟨b, 0, none⟩), .string s] w fun e w' => e = .returned (.agg #[.int .i64 ((σ s.data.toList).1 : Int), .string (lastB sec σ s)]) ∧ Below w.heap.size w w' := by
  have hkey := key9 s hs
  have c1 : w.cell? ⟨b, 1, none⟩ = some (.map mo) := hV.row.cell 1
  have hb := hV.row.lt
  cases mo with
  | none =>
    have e0 := hV.none rfl
    subst e0
    have hl : lastB sec kept0 s = ByteArray.empty := rfl
    have hn := fun wx => Maps.look_nil (P := Tryd.prog) (w := wx) false law9 Tryd.underlying103 (zero107 wx) hkey
    rw [hl]
    go_enter Tryd.func63, Tryd.ntmps63
    go_wp2
    exact bodyPost_ret (v := .agg #[.int .i64 0, .string ByteArray.empty]) (results_cell_row Tryd.results63 _ _ w.heap.size 107 #[.int .i64 0, .string ByteArray.empty] (0, 0) _ rfl (HasR.new w 107 _) Tryd.underlying107 rfl (by kernel_rfl)) rfl ⟨rfl, (Below.refl _ w).alloc (Nat.le_refl _) _⟩
  | some m =>
    obtain ⟨D, ho, hi⟩ := hV.held m rfl
    have hm := ho.lt
    have hv : ∀ u ps, holdElem u = some (D.atKey (.string s.data.toList) (holdD 0 []), ps) → u = .agg #[.int .i64 ((σ s.data.toList).1 : Int), .string (lastB sec σ s)] := fun u ps h => by
      rw [hi.2] at h
      rw [holdElem_is h, lastB_is]
    generalize lastB sec σ s = k at hv
    generalize (σ s.data.toList).1 = a at hv
    have HV := hide hv
    clear hv hi hV
    go_enter Tryd.func63, Tryd.ntmps63
    go_wp2_with (at_lookup; refine lookup_at _ rfl _ _ 103 rfl 9 107 law9 Tryd.underlying103 holdElem (zero107 _) (holdD 0 []) [] rfl m n D rfl (ho.alloc _) _ _ rfl hkey _ HV.out ?_)
    exact bodyPost_ret (v := .agg #[.int .i64 (a : Int), .string k]) (results_cell_row Tryd.results63 _ _ w.heap.size 107 #[.int .i64 (a : Int), .string k] (0, 0) _ rfl (HasR.new w 107 _) Tryd.underlying107 rfl (by kernel_rfl)) rfl ⟨rfl, (Below.refl _ w).alloc (Nat.le_refl _) _⟩
end Go.Proofs.YtdoakaadpfheaaaDoor
