/- The library's Values over a map of rows: each row comes once, in some order. -/
import Derived.Test.YtpfihhilgeihoaaTable
import Derived.Shelf.SlIter.Collect
namespace Go.Proofs.Ytpfihhilgeihoaa
open Go.RowKit Go.Maps Go.Sort Go.Shelf
/-- All rows, in some order. -/
def AllOf (σ : Tab) (cs : List Cl) : Prop := Apart cs ∧ ∀ c : Cl, c ∈ cs ↔ σ c.t c.r = some (c.s, c.v)
set_option maxRecDepth 100000 in
set_option maxHeartbeats 2000000 in
theorem values1_in (F : Fence) (n : Nat) (h57 : F.fn 57) (hro : F.round = none) (hn : 1 ≤ n) (l Bm b nn : Nat) (D0 : DataW Unit) (σ : Tab) (hR : Reads D0 σ) (J : List Cl → World → Prop)
    (hY : ∀ pre x W, J pre W → pre.length < Maps.size D0 → YieldAt F (n - 1) Try.prog l #[cellV x] W fun e W' => e = .returned (.bool true) ∧ J (pre ++ [x]) W' ∧ KeepsWalks W W')
    (W : World) (hJ : AbidesFrom W.heap.size J) (hm : W.cell? ⟨Bm, 0, none⟩ = some (.map (some b))) (hown : W.ownsMap Try.prog 69 cellElem b nn D0) (h0 : J [] W) :
    CallsIn F n Try.prog 57 #[.func (.yield l) #[] #[], .pointer (some ⟨Bm, 0, none⟩)] W fun e W' => (∃ v, e = .returned v) ∧ ∃ cs : List Cl, (AllOf σ cs ∧ cs.length ≤ Maps.size D0) ∧ J cs W' := by
  refine callsIn_of_wp Try.func57 rfl h57 ?_ hro
  simp only [Try.ntmps57, List.size_toArray, List.length_cons, List.length_nil, Nat.reduceAdd, Nat.reduceSub, Array.replicate_succ, Array.replicate_zero, List.push_toArray, List.append_toArray, List.nil_append, List.cons_append]
  gi_wp2_with (first
    | (gi_at_range; refine wpListIn_range_own _ rfl _ 31 rfl 69 42 law69 Try.underlying31 _ b nn _ rfl hown ?_; intro w0 hrg0 hg0 hs0)
    | gi_in)
  go_frame
  gi_loopw [4] (fun _ wr => ∃ (left : Lit → Bool) (cnt : Nat) (cs : List Cl), wr.ranges Try.prog 69 cellElem b W.heap.size nn D0 left cnt ∧ cs.length + cnt ≤ Maps.size D0 ∧ Got σ left cs ∧ J cs wr)
    (fun _ wr => wr.rangeLeft b W.heap.size)
  case atStart =>
    exact ⟨_, _, [], hrg0, by simp, Got.start hR, hJ [] W w0 none h0 hg0 (fun r e => by cases e)⟩
  case round =>
    obtain ⟨left, cnt, cs, hrg, hcs, hC, hJs⟩ := hrel
    gi_wp2_with (first
      | (gi_at_next; refine wpListIn_next_ranges _ rfl _ rfl 69 law69 cellElem (fun p : ByteArray × ByteArray => Value.agg #[.string p.1, .string p.2]) cellV (fun key kl h => key69_inv h) (fun v y h => by obtain ⟨c, hc, _⟩ := cellElem_inv h; exact ⟨c, hc⟩) b W.heap.size nn _ _ _ rfl hrg ?_ ?_)
      | gi_in)
    · intro hc0 hl0
      gi_wp2
      go_end0
      exact ⟨⟨_, rfl⟩, cs, ⟨hC.all hl0, by omega⟩, hJs⟩
    · intro xt xr c kl yd yp w2 cnt2 hkey hlk hv hat hrg2 hlt hg2 hs2 hen
      obtain ⟨rfl, rfl⟩ : yd = cellD c ∧ yp = [] := by
        rw [cellElem_mk] at hv
        simp only [Option.some.injEq, Prod.mk.injEq] at hv
        exact ⟨hv.1.symm, hv.2.symm⟩
      obtain ⟨hσ, rfl⟩ : σ c.t c.r = some (c.s, c.v) ∧ kl = klit c.t c.r := by
        obtain ⟨d, hd, hk⟩ := hR.entry (has_true_of_atKey hat)
        have h1 := (hR.there hd).2 .nil
        rw [← hk, hat] at h1
        obtain rfl := cellD_inj h1
        exact ⟨hd, hk⟩
      have hJ2 : J cs w2 := hJ cs wr w2 (some W.heap.size) hJs hg2 (fun r e => by cases e; exact ⟨Nat.le_refl _, hrg.iter_walk⟩)
      have hJ3 : J cs (w2.alloc (.cells #[.string c.t, .string c.r, .string c.s, .string c.v] 42)) := hJ cs w2 _ none hJ2 (World.grownBy_alloc w2 _ none) (fun r e => by cases e)
      obtain ⟨fn, tmps, assign, body, hy, hRd⟩ := hY cs c _ hJ3 (by omega)
      clear hs2
      unfold cellV at hy hen ⊢
      gi_wp2
      refine hRd.mono ?_
      rintro e W3 ⟨rfl, hJ4, hk3⟩
      gi_wp2
      have hrg3 := (hrg2.alloc (.cells #[.string c.t, .string c.r, .string c.s, .string c.v] 42)).of_walks hk3
      go_roundw
      case rel => exact ⟨_, cnt2, cs ++ [c], hrg3, by simp; omega, hC.step hR hσ hlk, hJ4⟩
      case measure => rw [hrg3.left_eq, hrg.left_eq]; exact hlt
/-- maps.Values(m): the map is boxed; the function value captures the box. -/
theorem values_in (F : Fence) (n : Nat) (hf : F.fn 41) (hro : F.round = none) (mb : Option Nat) (w : World) :
    CallsIn F n Try.prog 41 #[.map mb] w fun e w' => e = .returned (.func (.func 57) #[] #[.pointer (some ⟨w.heap.size, 0, none⟩)]) ∧ w' = w.alloc (.cells #[.map mb] 31) := by
  refine callsIn_of_wp Try.func41 rfl hf ?_ hro
  simp only [Try.ntmps41, List.size_toArray, List.length_cons, List.length_nil, Nat.reduceAdd, Nat.reduceSub, Array.replicate_succ, Array.replicate_zero, List.push_toArray, List.append_toArray, List.nil_append, List.cons_append]
  gi_wp2
  go_ret
  exact ⟨rfl, rfl⟩
theorem values_gives (F : Fence) (n : Nat) (h57 : F.fn 57) (hro : F.round = none) (hn : 1 ≤ n) (Bm b nn : Nat) (D0 : DataW Unit) (σ : Tab) (hR : Reads D0 σ) (w : World) (hBm : Bm < w.heap.size)
    (hm : w.cell? ⟨Bm, 0, none⟩ = some (.map (some b))) (hown : w.ownsMap Try.prog 69 cellElem b nn D0) :
    SeqGives F n Try.prog 57 #[.pointer (some ⟨Bm, 0, none⟩)] cellV (fun cs => AllOf σ cs ∧ cs.length ≤ Maps.size D0) (Maps.size D0) w := fun l J W hW hJ hY h0 => by
  have hown' : W.ownsMap Try.prog 69 cellElem b nn D0 := by
    have hbl := hown.lt
    obtain ⟨es, clock, hb, Ft, hs, hD⟩ := hown
    exact ⟨es, clock, (hW.block b hbl).trans hb, Ft, hs, hD⟩
  exact values1_in F n h57 hro hn l Bm b nn D0 σ hR J hY W hJ ((hW.cell (p := ⟨Bm, 0, none⟩) hBm).trans hm) hown' h0
set_option maxRecDepth 100000 in
set_option maxHeartbeats 2000000 in
/-- Over no map: nothing comes. -/
theorem values_gives_nil (F : Fence) (n : Nat) (h57 : F.fn 57) (hro : F.round = none) (Bm : Nat) (w : World) (hBm : Bm < w.heap.size) (hm : w.cell? ⟨Bm, 0, none⟩ = some (.map none)) :
    SeqGives F n Try.prog 57 #[.pointer (some ⟨Bm, 0, none⟩)] cellV (fun cs => AllOf tab0 cs ∧ cs.length ≤ 0) 0 w := fun l J W hW hJ _ h0 => by
  have hm' : W.cell? ⟨Bm, 0, none⟩ = some (.map none) := (hW.cell (p := ⟨Bm, 0, none⟩) hBm).trans hm
  have hrg := run_range_nilMap (P := Try.prog) W 31 _ _ Try.underlying31
  have hnx : ∀ ty, (Instr.next (.pointer (some ⟨W.heap.size, 0, none⟩)) false ty).run Try.prog (W.alloc (.mapIter none 0 #[] 0)) = _ := fun ty => run_next_nilMap _ ty 0 0 #[]
  have hJ1 : J [] (W.alloc (.mapIter none 0 #[] 0)) := hJ [] W _ none h0 (World.grownBy_alloc W _ none) (fun r e => by cases e)
  refine callsIn_of_wp Try.func57 rfl h57 ?_ hro
  simp only [Try.ntmps57, List.size_toArray, List.length_cons, List.length_nil, Nat.reduceAdd, Nat.reduceSub, Array.replicate_succ, Array.replicate_zero, List.push_toArray, List.append_toArray, List.nil_append, List.cons_append]
  gi_wp2
  gi_loopw [4] (fun _ wr => wr = W.alloc (.mapIter none 0 #[] 0)) (fun _ _ => 0)
  case atStart => rfl
  case round =>
    subst hrel
    gi_wp2
    go_end0
    exact ⟨⟨_, rfl⟩, [], ⟨⟨List.Pairwise.nil, fun c => by simp [tab0]⟩, by simp⟩, hJ1⟩
end Go.Proofs.Ytpfihhilgeihoaa
