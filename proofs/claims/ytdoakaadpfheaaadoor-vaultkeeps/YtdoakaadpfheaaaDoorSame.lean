/- The law's own look at two lists of texts. -/
import Derived.Test.YtdoakaadpfheaaaDoorSubjects
namespace Go.Proofs.YtdoakaadpfheaaaDoor
open Go.RowKit Go.Maps Go.Sort
attribute [local go_sem ↓] Go.wp_at_zero Go.wp_at_succ
/-- A list of texts as it lies in memory. -/
def Listed (w : World) (v : Value) (ts : List (List UInt8)) : Prop :=
  ∃ ao cap, v = .slice ao ts.length cap ∧ ∀ k, k < ts.length → ∃ g, ao = some ⟨g, 0, none⟩ ∧ g < w.heap.size ∧ w.cell? ⟨g, k, none⟩ = some (.string ⟨(ts.getD k []).toArray⟩)
theorem listed_of {w : World} {base : Nat} {v : Value} {ts : List (List UInt8)} (h : w.ownsRow base 9 1 v ts.length (ts.map encStr)) : Listed w v ts := by
  rcases h.2 with ⟨rfl, h0⟩ | ⟨g, cap, cur, rfl, hbase, hb, h1, h2, h3, h4⟩
  · exact ⟨none, 0, by rw [h0], fun k hk => absurd hk (by omega)⟩
  · refine ⟨_, cap, rfl, fun k hk => ⟨g, rfl, (Array.getElem?_eq_some_iff.1 hb).1, ?_⟩⟩
    rw [h.cellAt k (by omega)]
    simp [encStr, List.getD, List.getElem?_eq_getElem hk]
theorem Listed.below {w w' : World} {v : Value} {ts : List (List UInt8)} (h : Listed w v ts) (hb : Below w.heap.size w w') : Listed w' v ts := by
  obtain ⟨ao, cap, hv, hc⟩ := h
  refine ⟨ao, cap, hv, fun k hk => ?_⟩
  obtain ⟨g, h1, h2, h3⟩ := hc k hk
  exact ⟨g, h1, Nat.lt_of_lt_of_le h2 hb.size, (hb.cell (p := ⟨g, k, none⟩) h2).trans h3⟩
set_option maxRecDepth 100000 in
set_option maxHeartbeats 1000000 in
theorem sameTexts_any (u v : Value) (ts : List (List UInt8)) (w : World) (hl : ts.length ≤ 100000) (hu : Listed w u ts) (hv : Listed w v ts) :
    Calls Tryd.prog 40 #[u, v] w fun e w' => e = .returned (.bool true) ∧ Below w.heap.size w w' := by
  obtain ⟨a1, cap1, rfl, c1⟩ := hu
  obtain ⟨a2, cap2, rfl, c2⟩ := hv
  have C1 := hide c1
  have C2 := hide c2
  clear c1 c2
  generalize hL : ts.length = L at *
  go_enter Tryd.func40, Tryd.ntmps40
  go_wp2
  go_loopw [5] (fun i wr => ∃ k : Nat, k ≤ L ∧ i = .int .i64 k ∧ Below w.heap.size w wr) (fun i _ => L - (intOf i).toNat)
  case atStart => exact ⟨0, by omega, rfl, Below.refl _ _⟩
  case round =>
    obtain ⟨k, hk, rfl, hb⟩ := hrel
    by_cases hlt : k < L
    · obtain ⟨g1, rfl, l1, d1⟩ := C1.out k hlt
      obtain ⟨g2, rfl, l2, d2⟩ := C2.out k hlt
      have e1 : wr.cell? ⟨g1, k, none⟩ = some (.string ⟨(ts.getD k []).toArray⟩) := (hb.cell (p := ⟨g1, k, none⟩) l1).trans d1
      have e2 : wr.cell? ⟨g2, k, none⟩ = some (.string ⟨(ts.getD k []).toArray⟩) := (hb.cell (p := ⟨g2, k, none⟩) l2).trans d2
      generalize (⟨(ts.getD k []).toArray⟩ : ByteArray) = s at e1 e2
      have i0 : (0 : Int) ≤ (k : Int) := by omega
      have i1 : (k : Int) < (L : Int) := by omega
      clear C1 C2 d1 d2
      go_wp2
      go_quiet (fail)
      go_wp2
      go_roundw
      case rel => exact ⟨k + 1, by omega, by go_num, by first | exact hb.drew | exact ⟨hb.os, hb.tape, hb.output, hb.size, hb.block⟩⟩
      case measure => simp [intOf]; omega
    · have i1 : ¬ (k : Int) < (L : Int) := by omega
      go_wp2
      go_ret
      exact ⟨rfl, hb⟩
end Go.Proofs.YtdoakaadpfheaaaDoor
