/- The library's DeleteFunc, of cells. -/
import Derived.Test.YtpfihhilgeihoaaStrike
import Derived.Shelf.SlicesE.DeleteFunc
namespace Go.Proofs.Ytpfihhilgeihoaa
open Go.RowKit Go.Sort
attribute [local go_sem ↓] Go.wp_at_zero Go.wp_at_succ
set_option linter.unusedSectionVars false
variable [Inhabited Cl] [Inhabited Ev]
theorem index_any (g cap E : Nat) (cs : List Cl) (t r : ByteArray) (w : World) (hg : g < w.heap.size) (H : HoldsK cellL 4 w g 0 cs.toArray) (hl : cs.length ≤ 1000) (hT : w.cell? ⟨E, 2, none⟩ = some (.string t)) (hR : w.cell? ⟨E, 3, none⟩ = some (.string r)) :
    Calls Try.prog 46 #[.slice (some ⟨g, 0, none⟩) cs.length cap, .func (.func 27) #[] #[.pointer (some ⟨E, 0, none⟩)]] w fun x w' =>
      ((x = .returned (.int .i64 (-1)) ∧ ∀ j, j < cs.length → hereC t r cs[j]! = false) ∨ ∃ k : Nat, k < cs.length ∧ x = .returned (.int .i64 k) ∧ hereC t r cs[k]! = true ∧ ∀ j, j < k → hereC t r cs[j]! = false) ∧ Below w.heap.size w w' := by
  have h := AnyQ.slices_IndexFunc (ρ := laysAnyCell_ren) { laysAnyCell with } 4 isAgg42 sizeOf42 cellL (fun _ => rfl) (hereC t r) 27 #[.pointer (some ⟨E, 0, none⟩)] (enters_of Try.func27 (by kernel_rfl) rfl) g 0 cs.length cap cs w (here_pred t r E w hT hR) (Nat.le_refl _) (by omega) hg (RowC.cells H)
  rw [List.take_length] at h
  refine h.mono ?_
  rintro x w' ⟨rfl, hb⟩
  refine ⟨?_, hb⟩
  rcases idxByFrom_spec (fun _ y => hereC t r y) default cs 0 with ⟨e1, hall⟩ | ⟨k0, hk0, e1, ht, hall⟩
  · exact .inl ⟨by unfold Lib.idxBy; rw [e1], hall⟩
  · exact .inr ⟨k0, hk0, by unfold Lib.idxBy; rw [e1]; simp, ht, hall⟩
theorem filter_none {p : Cl → Bool} : ∀ {cs : List Cl}, (∀ j, j < cs.length → p cs[j]! = false) → (cs.filter fun c => !p c) = cs := by
  intro cs h
  rw [List.filter_eq_self]
  intro c hc
  obtain ⟨j, hj, rfl⟩ := List.mem_iff_getElem.1 hc
  have := h j hj
  rw [getElem!_pos cs j hj] at this
  rw [this]
  rfl
theorem struck_start {p : Cl → Bool} {cs : List Cl} {cap k : Nat} {cur : Array Value} (hs : cur.size = cap * 4) (hc : cur.toList.take (cs.length * 4) = cellsL cs) (hk : k < cs.length) (hp : p cs[k]! = true) (ha : ∀ j, j < k → p cs[j]! = false) : Struck p cs cap k (k + 1) cur := by
  have e0 : (cs.take k).filter (fun c => !p c) = cs.take k := filter_none (fun j hj => by
    have hj' : j < k := by rw [List.length_take] at hj; omega
    have := ha j hj'
    rw [getElem!_pos cs j (by omega)] at this
    rw [getElem!_pos (cs.take k) j hj, List.getElem_take]
    exact this)
  have e : (cs.take (k + 1)).filter (fun c => !p c) = cs.take k := by
    rw [take_snocC cs k hk, List.filter_append, e0]
    generalize cs[k]! = x at hp
    simp [hp]
  refine ⟨hs, by omega, by omega, by rw [e, List.length_take]; omega, ?_, fun a ha2 ha3 c u hu => ?_⟩
  · rw [e]
    have h1 : cellsL cs = cellsL (cs.take k) ++ cellsL (cs.drop k) := by
      unfold cellsL
      rw [← List.flatMap_append, List.take_append_drop]
    have h2 : (cellsL (cs.take k)).length = k * 4 := by rw [cellsL_len, List.length_take]; congr 1; omega
    have h3 : cur.toList.take (k * 4) = (cur.toList.take (cs.length * 4)).take (k * 4) := by rw [List.take_take]; congr 1; omega
    rw [h3, hc, h1, ← h2, List.take_left]
  · have hc4 : c < 4 := (List.getElem?_eq_some_iff.1 hu).1
    have h1 := cellsL_at cs (a * 4 + c) (by omega)
    have e1 : (a * 4 + c) / 4 = a := by omega
    have e2 : (a * 4 + c) % 4 = c := by omega
    rw [e1, e2, ← hc, List.getElem?_take_of_lt (by omega)] at h1
    rw [← Array.getElem?_toList, h1]
    have e3 : cs.toArray[a]! = cs[a]! := by simp
    rw [e3, ← hu, List.getElem?_eq_getElem (by exact hc4), getElem!_pos _ c (by exact hc4)]
set_option maxRecDepth 100000 in
set_option maxHeartbeats 4000000 in
theorem strike_some (base g cap E : Nat) (cs : List Cl) (cur : Array Value) (t r : ByteArray) (w : World) (hG : HasR w g 42 cur) (hs : cur.size = cap * 4) (hcap : cs.length ≤ cap) (hmax : cap ≤ maxLen) (hc : cur.toList.take (cs.length * 4) = cellsL cs)
    (hb : base ≤ g) (hE : E < base) (hl : cs.length ≤ 1000) (hT : w.cell? ⟨E, 2, none⟩ = some (.string t)) (hR : w.cell? ⟨E, 3, none⟩ = some (.string r)) :
    Calls Try.prog 25 #[.slice (some ⟨g, 0, none⟩) cs.length cap, .func (.func 27) #[] #[.pointer (some ⟨E, 0, none⟩)]] w fun x w' => ∃ u, x = .returned u ∧ RowC w' base u (cs.filter fun c => !hereC t r c) ∧ Below base w w' := by
  have hg := hG.lt
  have I := hide (index_any g cap E cs t r w hg (holds_of_block hG hc) hl hT hR)
  have eg : ∀ args w, (callFunc 27 args).run Try.prog w = .ok (.enter 27 args) w := enters_of Try.func27 (by kernel_rfl) rfl
  have HG := hide hG
  have HC := hide hc
  have HT := hide (And.intro hT hR)
  clear hG hc hT hR
  unfold maxLen at hmax
  go_enter Try.func25, Try.ntmps25
  go_wp2_with (go_at_call 46; (with_reducible refine I.out.mono ?_); rintro x w1 ⟨h | ⟨k, hk, h, hp, ha⟩, hb1⟩ <;> (first | obtain ⟨rfl, hall⟩ := h | subst h))
  · go_ret
    rw [filter_none hall]
    refine ⟨_, rfl, .inr ⟨g, cap, rfl, hb, Nat.lt_of_lt_of_le hg hb1.size, hcap, by unfold maxLen; exact hmax, ?_⟩, hb1.mono (by omega)⟩
    exact holds_of_block (HG.out.below hb1 hg) HC.out
  · have hne1 : ((k : Int) == -1) = false := beq_eq_false_iff_ne.2 (by omega)
    have S0 := hide (struck_start (p := hereC t r) hs HC.out hk hp ha)
    have B1 := hide hb1
    have G1 := hide (HG.out.below hb1 hg)
    clear hp ha hb1 I
    go_loopw [5, 6] (fun p q wr => ∃ (i j : Nat) (cu : Array Value), p = .int .i64 i ∧ q = .int .i64 j ∧ Struck (hereC t r) cs cap i j cu ∧ HasR wr g 42 cu ∧ Below base w wr) (fun _ q _ => cs.length - (intOf q).toNat)
    case atStart => exact ⟨k, k + 1, cur, rfl, by go_num, S0.out, G1.out, B1.out.mono (by omega)⟩
    case round =>
      clear S0 B1 G1
      obtain ⟨i, j, cu, rfl, rfl, hS, hGr, hB⟩ := hrel
      have SS := hide hS
      have GG := hide hGr
      have BB := hide hB
      have hij := hS.lt
      have hje := hS.le
      have hsz := hS.size
      have hgr := hGr.lt
      clear hS hGr hB
      by_cases hlt : j < cs.length
      · have c0 : wr.cell? ⟨g, j * 4, none⟩ = some (.string cs[j]!.t) := (GG.out.cell _).trans (SS.out.rest j (Nat.le_refl _) hlt 0 _ rfl)
        have c1 : wr.cell? ⟨g, j * 4 + 1, none⟩ = some (.string cs[j]!.r) := (GG.out.cell _).trans (SS.out.rest j (Nat.le_refl _) hlt 1 _ rfl)
        have c2 : wr.cell? ⟨g, j * 4 + 2, none⟩ = some (.string cs[j]!.s) := (GG.out.cell _).trans (SS.out.rest j (Nat.le_refl _) hlt 2 _ rfl)
        have c3 : wr.cell? ⟨g, j * 4 + 3, none⟩ = some (.string cs[j]!.v) := (GG.out.cell _).trans (SS.out.rest j (Nat.le_refl _) hlt 3 _ rfl)
        have hskip := SS.out.skip hlt
        have hkeep := SS.out.keep hlt hcap
        generalize cs[j]! = x at c0 c1 c2 c3 hskip hkeep
        have bel : Below wr.heap.size wr (wr.alloc (.cells #[.string x.t, .string x.r, .string x.s, .string x.v] 42)) := (Below.refl _ wr).alloc (Nat.le_refl _) _
        have hcl := here_any t r x E (wr.alloc (.cells #[.string x.t, .string x.r, .string x.s, .string x.v] 42))
          (((bel.cell (p := ⟨E, 2, none⟩) (show E < wr.heap.size by omega)).trans (BB.out.cell (p := ⟨E, 2, none⟩) hE)).trans HT.out.1) (((bel.cell (p := ⟨E, 3, none⟩) (show E < wr.heap.size by omega)).trans (BB.out.cell (p := ⟨E, 3, none⟩) hE)).trans HT.out.2)
        cases hq : hereC t r x with
        | true =>
          rw [hq] at hcl
          have CL := hide hcl
          have NX := hide (hskip hq)
          clear hcl hskip hkeep hq
          go_wp2_with (go_at_fn 27; (with_reducible refine CL.out.mono ?_); rintro e w2 ⟨rfl, hb2⟩)
          have hb3 := bel.trans (hb2.mono (by simp))
          go_roundw
          case rel => (repeat apply Exists.intro); exact ⟨⟨i, j + 1, cu, rfl, by go_num, NX.out, GG.out.below hb3 hgr, BB.out.trans (hb3.mono (by omega))⟩, rfl⟩
          case measure => simp [intOf]; omega
        | false =>
          rw [hq] at hcl
          have CL := hide hcl
          have NX := hide (hkeep hq)
          clear hcl hskip hkeep hq
          have at_ : ∀ c, c < 4 → ∃ o, cu[i * 4 + c]? = some o := fun c hc => ⟨_, Array.getElem?_eq_getElem (by omega)⟩
          obtain ⟨o0, p0⟩ := at_ 0 (by omega)
          obtain ⟨o1, p1⟩ := at_ 1 (by omega)
          obtain ⟨o2, p2⟩ := at_ 2 (by omega)
          obtain ⟨o3, p3⟩ := at_ 3 (by omega)
          have HX := HasR.new wr 42 #[.string x.t, .string x.r, .string x.s, .string x.v]
          have PP := hide (And.intro p0 (And.intro p1 (And.intro p2 p3)))
          clear at_ p0 p1 p2 p3
          go_wp2_with (go_at_fn 27; (with_reducible refine CL.out.mono ?_); rintro e w2 ⟨rfl, hb2⟩
                       have hb3 := bel.trans (hb2.mono (by simp))
                       have hX2 := HX.below hb2 (by simp)
                       have x0 := hX2.cell 0
                       have x1 := hX2.cell 1
                       have x2 := hX2.cell 2
                       have x3 := hX2.cell 3
                       simp at x0 x1 x2 x3
                       have hG2 := GG.out.below hb3 hgr
                       have y0 := (hG2.cell (i * 4)).trans PP.out.1
                       have y1 := (hG2.cell (i * 4 + 1)).trans PP.out.2.1
                       have y2 := (hG2.cell (i * 4 + 2)).trans PP.out.2.2.1
                       have y3 := (hG2.cell (i * 4 + 3)).trans PP.out.2.2.2
                       have f0 := hG2.free (i * 4)
                       have f1 := hG2.free (i * 4 + 1)
                       have f2 := hG2.free (i * 4 + 2)
                       have f3 := hG2.free (i * 4 + 3)
                       have GG2 := hide hG2
                       have BB2 := hide hb3
                       clear hG2 hb3 hb2 hX2)
          go_roundw
          case rel =>
            have hN : HasR (w2.setCells g (i * 4) (cellL x)) g 42 _ := HasR.sets (cellL x) (i * 4) w2 g 42 cu GG2.out (by show i * 4 + 4 ≤ cu.size; omega)
            have hBn : Below base w (w2.setCells g (i * 4) (cellL x)) := below_setCells (cellL x) (i * 4) w w2 g base (BB.out.trans (BB2.out.mono (by omega))) hb
            (repeat apply Exists.intro)
            exact ⟨⟨i + 1, j + 1, _, by go_num, by go_num, NX.out, hN, hBn⟩, rfl⟩
          case measure => simp [intOf]; omega
      · have hje2 : j = cs.length := by omega
        have hlen := SS.out.len
        rw [hje2, List.take_length] at hlen
        obtain ⟨vs, hvl, hclear⟩ := clear42 wr 0 g (i * 4) (cs.length - i) (cap - i) (by omega) cu GG.out (by omega)
        have KK := SS.out.kept
        rw [hje2, List.take_length] at KK
        have KH := hide KK
        have LH := hide hlen
        have VH := hide hvl
        clear KK hlen hvl
        go_wp2
        go_ret
        have hN := HasR.sets vs (i * 4) wr g 42 cu GG.out (by rw [VH.out]; omega)
        have hBn : Below base w (wr.setCells g (i * 4) vs) := below_setCells vs (i * 4) w wr g base BB.out hb
        refine ⟨_, rfl, .inr ⟨g, cap, by rw [LH.out]; rfl, hb, hN.lt, by rw [LH.out]; omega, by unfold maxLen; exact hmax, holds_of_block hN ?_⟩, hBn⟩
        have ht : (cu.toList.take (i * 4)).length = i * 4 := by rw [List.length_take, Array.length_toList]; omega
        rw [LH.out, List.toList_toArray, List.append_assoc, ← KH.out]
        exact List.take_left' ht
set_option maxRecDepth 100000 in
set_option maxHeartbeats 1000000 in
theorem indexNoneC (p : Option Addr) (c : Nat) (fv : Value) (w : World) : Calls Try.prog 46 #[.slice p 0 c, fv] w fun e w' => e = .returned (.int .i64 (-1)) ∧ w' = w := by
  go_enter Try.func46, Try.ntmps46
  go_wp2
  refine wp_loop_rounds 1 ?_
  rw [rounds_succ]
  go_wp2
  go_ret
  exact ⟨rfl, rfl⟩
set_option maxRecDepth 100000 in
set_option maxHeartbeats 1000000 in
theorem strikeNone (p : Option Addr) (c : Nat) (fv : Value) (w : World) : Calls Try.prog 25 #[.slice p 0 c, fv] w fun e w' => e = .returned (.slice p 0 c) ∧ w' = w := by
  have I := hide (indexNoneC p c fv w)
  go_enter Try.func25, Try.ntmps25
  go_wp2_with (go_at_call 46; (with_reducible refine I.out.mono ?_); rintro e w1 ⟨rfl, rfl⟩)
  go_ret
  exact ⟨rfl, rfl⟩
/-- slices.DeleteFunc over cells of a row of the calls' own. -/
theorem strike_any (base E : Nat) (v : Value) (cs : List Cl) (t r : ByteArray) (w : World) (ho : w.ownsRow base 42 4 v cs.length (cellsL cs)) (hE : E < base) (hl : cs.length ≤ 1000) (hT : w.cell? ⟨E, 2, none⟩ = some (.string t)) (hR : w.cell? ⟨E, 3, none⟩ = some (.string r)) :
    Calls Try.prog 25 #[v, .func (.func 27) #[] #[.pointer (some ⟨E, 0, none⟩)]] w fun x w' => ∃ u, x = .returned u ∧ RowC w' base u (cs.filter fun c => !hereC t r c) ∧ Below base w w' := by
  rcases ho.2 with ⟨rfl, h0⟩ | ⟨g, cap, cur, rfl, hb, hg, h1, h2, h3, h4⟩
  · have e : cs = [] := List.length_eq_zero_iff.1 h0
    subst e
    refine (strikeNone none 0 _ w).mono ?_
    rintro x w' ⟨rfl, rfl⟩
    exact ⟨_, rfl, .inl ⟨rfl, rfl⟩, Below.refl _ _⟩
  · exact strike_some base g cap E cs cur t r w hg h3 h1 h2 h4 hb hE hl hT hR
end Go.Proofs.Ytpfihhilgeihoaa
