/- Texts of this proof, one behind the other. -/
import Derived.RangeFuncNested
import Derived.RangeFuncBound
import Derived.RangeFuncCalls
import Derived.RangeFuncLeaves
import Derived.Shelf.Abstract
import Derived.Shelf.RegionOpen
import Derived.WalkKit
import Derived.OwnWalkIn
import Derived.TacticsInMore
import Derived.LoopNIn
import Derived.LoopIn
import Derived.CallsIn
import Derived.Maps.AppendAt
import Derived.BigRegionIn
import Derived.Test.YtjobghphjkeohaaDoorProg
import Derived.Test.YtjobghphjkeohaaDoorPart18
/- The program's records: an iterator over a text: its contract. -/
namespace Go.Proofs.YtjobghphjkeohaaDoor
open Go.RowKit Go.Shelf
attribute [local go_sem] Oper.semAt_some
theorem grown_of_below {w w' : World} (h : Below w.heap.size w w') : w.grownBy w' none := ⟨h.os, h.tape, h.output, h.size, fun k hk _ => h.block k hk⟩
/-- What comes: a record; where it ends. -/
abbrev Re := Rec × Nat
def reV (x : Re) : Array Value := #[recV x.1, .int .i64 (x.2 : Int)]
def lastE (xs : List Re) : Nat := xs.foldl (fun _ x => x.2) 0
theorem lastE_snoc (xs : List Re) (x : Re) : lastE (xs ++ [x]) = x.2 := by simp [lastE]
/-- These have come. -/
structure Told (l : List UInt8) (xs : List Re) : Prop where
  right : ∀ r ∈ xs.map Prod.fst, RightR r
  stands : l = wiresL (xs.map Prod.fst) ++ l.drop (lastE xs)
  ends : lastE xs = (wiresL (xs.map Prod.fst)).length
  few : xs.length ≤ lastE xs
theorem Told.start (l : List UInt8) : Told l [] := ⟨fun r h => by simp at h, rfl, rfl, Nat.le_refl _⟩
theorem Told.le {l : List UInt8} {xs : List Re} (h : Told l xs) : lastE xs ≤ l.length := by
  have := congrArg List.length h.stands
  rw [List.length_append, ← h.ends] at this
  omega
theorem Told.step {l : List UInt8} {xs : List Re} {r : Rec} (h : Told l xs) (hf : firstL (l.drop (lastE xs)) = some r) : Told l (xs ++ [(r, lastE xs + (wireL r).length)]) := by
  obtain ⟨hr, more, hm⟩ := first_some hf
  have e1 : (xs ++ [(r, lastE xs + (wireL r).length)]).map Prod.fst = xs.map Prod.fst ++ [r] := by simp
  have e2 : lastE (xs ++ [(r, lastE xs + (wireL r).length)]) = lastE xs + (wireL r).length := lastE_snoc _ _
  have hne := wireL_ne r
  have hfew := h.few
  refine ⟨fun x hx => ?_, ?_, ?_, ?_⟩
  · rw [e1, List.mem_append] at hx
    rcases hx with hx | hx
    · exact h.right x hx
    · rw [List.mem_singleton] at hx; rw [hx]; exact hr
  · rw [e1, e2, wiresL_snoc, List.append_assoc, ← List.drop_drop, hm, List.drop_left, ← hm]
    exact h.stands
  · rw [e1, e2, wiresL_snoc, List.length_append, ← h.ends]
  · rw [e2, List.length_append, List.length_singleton]; omega
theorem Told.lt {l : List UInt8} {xs : List Re} {r : Rec} (h : Told l xs) (hf : firstL (l.drop (lastE xs)) = some r) : xs.length < l.length ∧ lastE xs + (wireL r).length ≤ l.length := by
  have h1 := (h.step hf).le
  rw [lastE_snoc] at h1
  have hne := wireL_ne r
  have hfew := h.few
  exact ⟨by omega, h1⟩
theorem Told.all {l : List UInt8} {xs : List Re} (h : Told l xs) (hf : firstL (l.drop (lastE xs)) = none) : AllAt l (xs.map Prod.fst) := ⟨h.right, _, h.stands, hf⟩
/-- What a round keeps. -/
def KpR (n₀ Bs : Nat) (W W' : World) : Prop := Below n₀ W W' ∧ W'.heap[Bs]? = W.heap[Bs]?
theorem KpR.t {n₀ Bs : Nat} {A B C : World} (h : KpR n₀ Bs A B) (k : KpR n₀ Bs B C) : KpR n₀ Bs A C := ⟨h.1.trans k.1, k.2.trans h.2⟩
set_option maxRecDepth 100000 in
set_option maxHeartbeats 2000000 in
theorem records_stops (n : Nat) (hn : 1 ≤ n) (Bs n₀ : Nat) (l : List UInt8) (hl : l.length ≤ 100000) (w : World) (hBs : Bs < w.heap.size) (h3 : 1 < n₀) (hn₀ : n₀ ≤ w.heap.size) (hK : TabK w) (hb : Boxed w Bs 9 (.string (tx l))) :
    SeqStopsK Fence.wide n Tryd.prog 39 #[.pointer (some ⟨Bs, 0, none⟩)] reV (KpR n₀ Bs) (fun xs => Told l xs ∧ firstL (l.drop (lastE xs)) = none) (fun _ => True) l.length w := fun lp J Jx W hW hJ hJx hY h0 => by
  have hK0 : TabK W := hK.below hW (by omega)
  have hb0 : Boxed W Bs 9 (.string (tx l)) := (hW.block Bs hBs).trans hb
  have hs0 : W.heap.size ≤ W.heap.size := Nat.le_refl _
  refine callsIn_of_wp Tryd.func39 rfl trivial ?_ rfl
  simp only [Tryd.ntmps39, List.size_toArray, List.length_cons, List.length_nil, Nat.reduceAdd, Nat.reduceSub, Array.replicate_succ, Array.replicate_zero, List.push_toArray, List.append_toArray, List.nil_append, List.cons_append]
  gi_wp2
  gi_loopw [3] (fun p wr => ∃ pre : List Re, p = .int .i64 (lastE pre : Int) ∧ Told l pre ∧ J pre wr ∧ TabK wr ∧ Boxed wr Bs 9 (.string (tx l)) ∧ W.heap.size ≤ wr.heap.size)
    (fun p _ => l.length - (intOf p).toNat)
  case atStart =>
    exact ⟨[], rfl, Told.start l, h0, hK0, hb0, hs0⟩
  case round =>
    obtain ⟨pre, rfl, hT, hJs, hKs, hbs, hss⟩ := hrel
    have hle := hT.le
    have hd := tx_drop l (lastE pre)
    have hsz : (tx l).size = l.length := rfl
    have hcs := hbs.cell
    have F1 := fun wx (hk : TabK wx) => callsIn_wide (n := n - 1) |>.2 (first_any (l.drop (lastE pre)) wx hk)
    have g1 : (lastE pre : Int) ≤ (l.length : Int) := by omega
    have g2 : (lastE pre : Int) ≤ 100000 := by omega
    have g3 : (0 : Int) ≤ (lastE pre : Int) := by omega
    cases hf : firstL (l.drop (lastE pre)) with
    | none =>
      have FV := firstV_none hf
      gi_wp2_with (refine ⟨trivial, ?_⟩; gi_at_call 27; refine (F1 wr hKs).mono ?_; rw [FV]; rintro y w2 ⟨rfl, hb2⟩)
      all_goals (refine ⟨fun _ h => (by cases h), ?_⟩; gi_wp2)
      refine bodyPost_ret (results_none rfl _ _ _) rfl ?_
      have hJ2 := hJ pre wr w2 none hJs (grown_of_below hb2) (fun r e => by cases e)
      exact ⟨⟨_, rfl⟩, .inl ⟨pre, ⟨hT, hf⟩, hJ pre w2 _ none hJ2 (World.grownBy_alloc w2 _ none) (fun r e => by cases e)⟩⟩
    | some r =>
      have FV := firstV_some hf
      have hlt := hT.lt hf
      have hne := wireL_ne r
      have hstep := hT.step hf
      have g4 : (lastE pre : Int) + ((wireL r).length : Int) ≤ 100000 := by omega
      have g6 : lastE pre + (wireL r).length ≤ l.length := hlt.2
      have g5 : (0 : Int) < ((wireL r).length : Int) := by omega
      have hlst : (lastE (pre ++ [(r, lastE pre + (wireL r).length)]) : Int) = (lastE pre : Int) + ((wireL r).length : Int) := by rw [lastE_snoc]; exact Int.natCast_add _ _
      have hjj := hlt.1
      have gn : ¬ (((wireL r).length : Int) = 0) := by omega
      clear hlt hne hf
      have HT := hide hstep
      have HL := hide hlst
      clear hstep hlst
      generalize (wireL r).length = wn at FV g4 g5 g6 gn HT HL ⊢
      gi_wp2_with (have _ := F1; refine ⟨trivial, ?_⟩; gi_at_call 27; refine (F1 wr hKs).mono ?_; clear F1; rw [FV]; clear FV; unfold recV; rintro y w2 ⟨rfl, hb2⟩; have hJ2 := hJ pre wr w2 none hJs (grown_of_below hb2) (fun r e => by cases e); have hJ3 := hJ pre w2 (w2.alloc (.cells #[.int .i64 (r.q : Int), .string r.s, .int .i64 (r.g : Int), .string r.p, .string r.d] 23)) none hJ2 (World.grownBy_alloc w2 _ none) (fun r e => by cases e); obtain ⟨fn, tmps, assign, body, hy, hR⟩ := hY pre (r, lastE pre + wn) _ hJ3 hjj; unfold reV recV at hy; dsimp only at hy; rw [Int.natCast_add] at hy)
      have hbA : Below w2.heap.size w2 (w2.alloc (.cells #[.int .i64 (r.q : Int), .string r.s, .int .i64 (r.g : Int), .string r.p, .string r.d] 23)) := (Below.refl _ w2).alloc (Nat.le_refl _) _
      have hk3 : TabK (w2.alloc (.cells #[.int .i64 (r.q : Int), .string r.s, .int .i64 (r.g : Int), .string r.p, .string r.d] 23)) := (hKs.below hb2 hKs.lt).below hbA (hKs.below hb2 hKs.lt).lt
      have hbx : Boxed (w2.alloc (.cells #[.int .i64 (r.q : Int), .string r.s, .int .i64 (r.g : Int), .string r.p, .string r.d] 23)) Bs 9 (.string (tx l)) := Boxed.alloc ((hb2.block Bs hbs.lt).trans hbs) _
      have hsz3 : W.heap.size ≤ (w2.alloc (.cells #[.int .i64 (r.q : Int), .string r.s, .int .i64 (r.g : Int), .string r.p, .string r.d] 23)).heap.size := Nat.le_trans (Nat.le_trans hss hb2.size) hbA.size
      refine hR.mono ?_
      rintro e W3 (⟨rfl, hJ4, hk⟩ | ⟨rfl, hJx4⟩)
      · have hb3 : Boxed W3 Bs 9 (.string (tx l)) := hk.2.trans hbx
        have hK4 := hk3.below hk.1 h3
        have hsz4 := Nat.le_trans hsz3 hk.1.size
        gi_wp2
        go_roundw
        case rel => exact ⟨_, congrArg (Value.int .i64) HL.out.symm, HT.out, hJ4, hK4, hb3, hsz4⟩
        case measure => simp [intOf]; omega
      · gi_wp2
        refine bodyPost_ret (results_none rfl _ _ _) rfl ?_
        exact ⟨⟨_, rfl⟩, .inr ⟨_, trivial, hJx4⟩⟩
end Go.Proofs.YtjobghphjkeohaaDoor

/- The program's All: what stands there wholly, one behind the other. -/
namespace Go.Proofs.YtjobghphjkeohaaDoor
open Go.RowKit Go.Shelf
attribute [local go_sem] Oper.semAt_some
set_option maxHeartbeats 1000000 in
theorem records_in (n : Nat) (s : ByteArray) (w : World) : CallsIn Fence.wide n Tryd.prog 28 #[.string s] w fun e w' => e = .returned (.func (.func 39) #[] #[.pointer (some ⟨w.heap.size, 0, none⟩)]) ∧ w' = w.alloc (.cells #[.string s] 9) := by
  refine callsIn_of_wp Tryd.func28 rfl trivial ?_ rfl
  simp only [Tryd.ntmps28, List.size_toArray, List.length_cons, List.length_nil, Nat.reduceAdd, Nat.reduceSub, Array.replicate_succ, Array.replicate_zero, List.push_toArray, List.append_toArray, List.nil_append, List.cons_append]
  gi_wp2
  go_ret
  exact ⟨rfl, rfl⟩
theorem hasR_own {β : Type} (B : Nat) (t : TypeId) (f : β → Array Value) : Own (fun s W => HasR W B t (f s)) := fun s X Y row hs hg hrow => by
  have hlt := HasR.lt hs
  refine (hg.block B hlt (fun e' => ?_)).trans hs
  obtain ⟨o, ho, hc⟩ := hrow B e'.symm
  rw [show X.heap[B]? = _ from hs] at ho; cases ho; cases hc
theorem info30w : (Tryd.prog.info? 23).map (fun i => (i.zero, i.size, i.bytes)) = some (some (recV recZ), 5, 64) := by kernel_rfl
set_option maxRecDepth 100000 in
set_option maxHeartbeats 4000000 in
theorem all_any (l : List UInt8) (hl : l.length ≤ 100000) (w : World) (hK : TabK w) : Calls Tryd.prog 14 #[.string (tx l)] w fun x w' => ∃ (v : Value) (rs : List Rec), x = .returned (.tuple #[v, .int .i64 ((wiresL rs).length : Int)]) ∧ AllAt l rs ∧ w'.ownsRow w.heap.size 23 5 v rs.length (recsL rs) ∧ Below w.heap.size w w' := by
  refine (callsIn_wide (n := 3)).1 ?_
  refine callsIn_of_wp_marks Tryd.func14 rfl trivial ?_ rfl
  simp only [Tryd.ntmps14, List.size_toArray, List.length_cons, List.length_nil, Nat.reduceAdd, Nat.reduceSub, Array.replicate_succ, Array.replicate_zero, List.push_toArray, List.append_toArray, List.nil_append, List.cons_append]
  gi_wp2_with (refine ⟨trivial, ?_⟩; gi_at_call 28; refine (records_in (3 - 1) _ _).mono ?_; rintro e w' ⟨rfl, rfl⟩)
  have b0 := ((Boxed.new w 40 (.slice none 0 0)).alloc (.cells #[.int .i64 0] 3)).alloc (.cells #[.string (tx l)] 9)
  have b1 := (Boxed.new (w.alloc (.cells #[.slice none 0 0] 40)) 3 (.int .i64 0)).alloc (.cells #[.string (tx l)] 9)
  have b2 := Boxed.new ((w.alloc (.cells #[.slice none 0 0] 40)).alloc (.cells #[.int .i64 0] 3)) 9 (.string (tx l))
  simp only [World.size_alloc] at b1 b2
  have hB0 : Below w.heap.size w (((w.alloc (.cells #[.slice none 0 0] 40)).alloc (.cells #[.int .i64 0] 3)).alloc (.cells #[.string (tx l)] 9)) := (((Below.refl _ w).alloc (Nat.le_refl _) _).alloc (by simp) _).alloc (by simp; omega) _
  have hsz : (((w.alloc (.cells #[.slice none 0 0] 40)).alloc (.cells #[.int .i64 0] 3)).alloc (.cells #[.string (tx l)] 9)).heap.size = w.heap.size + 3 := by simp
  obtain ⟨W0, hW0⟩ : ∃ W0, ((w.alloc (.cells #[.slice none 0 0] 40)).alloc (.cells #[.int .i64 0] 3)).alloc (.cells #[.string (tx l)] 9) = W0 := ⟨_, rfl⟩
  rw [hW0] at b0 b1 b2 hB0 hsz ⊢
  clear hW0
  have hK0 := hK.below hB0 hK.lt
  refine wpIn_rangeFunc_ownH rfl (by omega) (gf := 39) (lb := #[.pointer (some ⟨w.heap.size + 1 + 1, 0, none⟩)]) rfl trivial (enters_of Tryd.func39 (by kernel_rfl) rfl)
    (records_stops (3 - 1) (by omega) (w.heap.size + 1 + 1) w.heap.size l hl W0 (by omega) hK.lt (by omega) hK0 b2) KpR.t (fun W lp o o' h1 h2 h3 h4 => ⟨belowK_b (w := W0) (by omega) W lp o o' h1 h2 h3 h4, World.putObj_heap_other (by omega)⟩) (Below.refl _ _) (fun _ => rfl)
    (fun pre W => ((∃ v, Boxed W w.heap.size 40 v ∧ W.ownsRow w.heap.size 23 5 v pre.length (recsL (pre.map Prod.fst)) ∧ True) ∧ Boxed W (w.heap.size + 1) 3 (.int .i64 (lastE pre : Int)) ∧ Boxed W (w.heap.size + 1 + 1) 9 (.string (tx l))) ∧ Below w.heap.size w W)
    (fun _ _ _ => False)
    (OwnFrom.and (OwnFrom.and (Own.from (holdsRow_own _ _ _ _ _ _ _ (fun _ _ => True)) _) (OwnFrom.and (Own.from (boxed_own _ _ _) _) (Own.from (boxed_own _ _ (fun _ => .string (tx l))) _))) (ownFrom_below (Nat.le_refl _) (by omega)))
    (fun _ _ _ _ _ hs _ _ => hs)
    ⟨⟨⟨_, b0, World.ownsRow_nil _ _ _ _, trivial⟩, b1, b2⟩, hB0⟩
    (fun x a' W => ∃ Bx, w.heap.size + 1 + 1 < Bx ∧ HasR W Bx 23 #[.int .i64 (x.1.q : Int), .string x.1.s, .int .i64 (x.1.g : Int), .string x.1.p, .string x.1.d] ∧ a' = { tmps := #[.string (tx l), undef, .slice none 0 0, .int .i64 0, .pointer (some ⟨w.heap.size, 0, none⟩), .pointer (some ⟨w.heap.size + 1, 0, none⟩), .pointer (some ⟨Bx, 0, none⟩), .int .i64 (x.2 : Int), .string (tx l), .func (.func 39) #[] #[.pointer (some ⟨w.heap.size + 1 + 1, 0, none⟩)], recV x.1, .int .i64 (x.2 : Int), undef, undef, undef, undef, undef, undef, undef], defers := [] })
    (fun x a' _ X Y row hs hg hr => by obtain ⟨Bx, h1, h2, h3⟩ := hs; exact ⟨Bx, h1, hasR_own Bx 23 (fun (_ : Unit) => #[.int .i64 (x.1.q : Int), .string x.1.s, .int .i64 (x.1.g : Int), .string x.1.p, .string x.1.d]) () X Y row h2 hg (fun r e => (hr r e).2), h3⟩)
    ?assign ?body ?done ?stop
  case assign =>
    rintro lp pre x W K ⟨⟨⟨v, hv, hrow, _⟩, h1, h2⟩, hB1⟩ hK
    unfold reV recV
    gi_wp2
    exact hK _ _ ((KeepsOthers.alloc _ _).from _) ⟨(Below.refl _ W).alloc hB1.size _, Below.heap_alloc _ _ _ h2.lt⟩ ⟨⟨⟨v, hv.alloc _, hrow.alloc _, trivial⟩, h1.alloc _, h2.alloc _⟩, hB1.alloc hB1.size _⟩ ⟨W.heap.size, h2.lt, HasR.new W 23 _, rfl⟩
  case body =>
    rintro lp pre x a' W hlp ⟨r, hr⟩ ⟨⟨⟨v, hv, hrow, _⟩, h1, h2⟩, hB1⟩ ⟨Bx, hBx, bX, rfl⟩ hlt
    obtain ⟨i0, hi, hz0, hz1, hz2⟩ := info_parts info30w
    have cB := hv.cell
    have x0 : W.cell? ⟨Bx, 0, none⟩ = some (.int .i64 (x.1.q : Int)) := bX.cell 0
    have x1 : W.cell? ⟨Bx, 1, none⟩ = some (.string x.1.s) := bX.cell 1
    have x2 : W.cell? ⟨Bx, 2, none⟩ = some (.int .i64 (x.1.g : Int)) := bX.cell 2
    have x3 : W.cell? ⟨Bx, 3, none⟩ = some (.string x.1.p) := bX.cell 3
    have x4 : W.cell? ⟨Bx, 4, none⟩ = some (.string x.1.d) := bX.cell 4
    have hWs := hB1.size
    clear hr
    gi_wp2_with (gi_at_builtin; refine wpListIn_append_own _ rfl _ _ 40 rfl w.heap.size 23 i0 (recV recZ) 5 64 Tryd.underlying40 hi hz0 hz1 hz2 rfl (by decide) _ _ _ rfl (hrow.alloc _) ⟨W.heap.size, 0, none⟩ 1 1 (recL x.1) rfl rfl (news_blk (HasR.new W 23 #[.int .i64 (x.1.q : Int), .string x.1.s, .int .i64 (x.1.g : Int), .string x.1.p, .string x.1.d])) (by simp [Value.oneCell', recL]) (by unfold maxLen; omega) (by omega) (by simp; omega) ?_; intro v' w1 hown' hgrow _; obtain ⟨g', cap', rfl⟩ := ownsRow_succ hown'; obtain ⟨hv1, hv2, hr2, hk2, hb2⟩ := hv.appended (by decide) hrow hB1.size (Nat.le_refl _) hown' hgrow; have hc1 := hv1.cell; have hf1 := hv1.frozen; have h1w : Boxed w1 (w.heap.size + 1) 3 (.int .i64 (lastE pre : Int)) := (h1.alloc _).kept hgrow (h1.not_row (by decide) hrow); have h2w : Boxed w1 (w.heap.size + 1 + 1) 9 (.string (tx l)) := (h2.alloc _).kept hgrow (h2.not_row (by decide) hrow); have h1s := h1w.other (B' := w.heap.size) (by omega) (.slice (some ⟨g', 0, none⟩) (pre.length + 1) cap'); have h2s := h2w.other (B' := w.heap.size) (by omega) (.slice (some ⟨g', 0, none⟩) (pre.length + 1) cap'); have hc2 := h1s.cell; have hf2 := h1s.frozen)
    have h2f := h2s.other (B' := w.heap.size + 1) (by omega) (.int .i64 (x.2 : Int))
    have hbF := hb2.setCell (p := ⟨w.heap.size + 1, 0, none⟩) (by simp) (.int .i64 (x.2 : Int))
    refine ⟨(hk2.trans (KeepsOthers.setCell _ _ _)).from _, ⟨hbF, h2f.trans h2.symm⟩, ⟨⟨⟨_, hv2.other (by omega) _, ?_, trivial⟩, ?_, h2f⟩, hB1.trans hbF⟩⟩
    · have := hr2.kept (grownBy_setCell' _ (w.heap.size + 1) (.int .i64 (x.2 : Int))) (.inr (h1s.not_row (by decide) hr2).symm)
      rw [List.length_append, List.length_singleton, List.map_append, List.map_singleton, recsL_snoc]
      exact this
    · rw [lastE_snoc]; exact h1s.set _
  case done =>
    rintro D xs W hD ⟨hT, hf⟩ ⟨⟨⟨v, hv, hrow, _⟩, h1, h2⟩, hB1⟩ hK
    have c0 := hv.cell
    have c1 := h1.cell
    gi_wp2
    gi_region
    all_goals gi_wp2
    all_goals (try go_bits)
    have hKd : W.drew.heap[D]? = some (.deferred (some [])) := hK
    have hrd : W.drew.ownsRow w.heap.size 23 5 v xs.length (recsL (xs.map Prod.fst)) := hrow
    refine ⟨by simp, .inl ⟨_, _, rfl, run_takeDeferred hKd, ?_⟩⟩
    refine ⟨.tuple #[v, .int .i64 (lastE xs : Int)], by simp [results, Tryd.results14, go_sem], v, xs.map Prod.fst, ?_, hT.all hf, ?_, ?_⟩
    · rw [← hT.ends]
    · rw [List.length_map]
      exact ownsRow_putObj hrd _ hKd rfl
    · exact hB1.drew.trans (belowK_b (w := w) (Nat.le_refl _) W.drew D _ _ (by omega) hKd rfl rfl)
  case stop =>
    rintro D c pre W _ _ h _
    exact h.elim
end Go.Proofs.YtjobghphjkeohaaDoor

/- Words of 64 bits and numbers as a slice's elements. -/
namespace Go.Proofs.YtjobghphjkeohaaDoor
open Go Go.RowKit
theorem elemU : ∃ i, Elem Tryd.prog 81 54 i (.int .u64 0) 8 := by
  obtain ⟨i, hi, h0, h1, h2⟩ := info_parts Tryd.info38'
  exact ⟨i, Tryd.underlying81, hi, h0, h1, h2, rfl, by omega⟩
end Go.Proofs.YtjobghphjkeohaaDoor
