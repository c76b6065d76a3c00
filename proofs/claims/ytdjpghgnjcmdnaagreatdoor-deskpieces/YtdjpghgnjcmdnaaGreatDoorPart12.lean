/- Texts of this proof, one behind the other. -/
import Derived.Test.YtdjpghgnjcmdnaaGreatDoorPart11
/- A line's answer: a line that has words, at which something is thrown. -/
namespace Go.Proofs.YtdjpghgnjcmdnaaGreatDoor
open Go.RowKit Go.Shelf Go.Sort
attribute [local go_sem ↓] Go.wp_at_zero Go.wp_at_succ
set_option linter.unusedSectionVars false
variable [Inhabited LowT]
set_option maxRecDepth 100000 in
set_option maxHeartbeats 4000000 in
theorem answer_thrown {S : Type} {D : S → World → Prop} {Ob : S → ByteArray → List ByteArray → ByteArray → S → Prop} {Th : S → ByteArray → List ByteArray → Option Nat} (hD : ∀ s w w', D s w → Noise w w' → D s w') (db : Nat) {cnt : S → Nat} (hO : Obeys D Ob Th cnt db) (s : S) (hc : cnt s ≤ 30000) (l : List UInt8) (hl : l.length ≤ 30000) (x : ByteArray) (xs : List ByteArray) (h0 : wordsB (textL l) = x :: xs) (w : World) (hs : D s w) (hV : Vars w) (m : Nat) (hth : Th s x xs = some m) :
    Calls Tryz.prog 10 #[.pointer (some ⟨db, 0, none⟩), .string (textL l)] w fun e w' => ∃ o s', Ob s x xs o s' ∧ e = .returned (.string o) ∧ D s' w' ∧ Quiet w w' := by
  have hmf : ∀ (fn : Fn) (first cap : Array Value) (w : World), (Instr.makeFunc fn first cap).run Tryz.prog w = .ok (.func fn first cap) w := fun _ _ _ _ => rfl
  have FA := hide (fun wx => fields_any (textL l) hl wx)
  rw [h0] at FA
  have X0 := hide (HasR.new w 9 #[.string ⟨#[]⟩])
  have B0 := hide ((Below.refl w.heap.size w).alloc (Nat.le_refl _) (.cells #[.string ⟨#[]⟩] 9))
  have HV := hide hV
  have HS := hide hs
  obtain ⟨n, hn⟩ : ∃ n, n = (x :: xs).length := ⟨_, rfl⟩
  rw [← hn] at FA
  have hn1 : n = xs.length + 1 := hn
  have nz : ((n : Int) == 0) = false := by rw [beq_eq_false_iff_ne]; omega
  have nz2 : ¬ (n : Int) = 0 := by omega
  have n0p : 0 < n := by omega
  have i0 : (0 : Int) < (n : Int) := by omega
  have i1 : (1 : Int) ≤ (n : Int) := by omega
  have HN := hide hn1
  clear hs hV hn hn1
  go_enter_defers Tryz.func10, Tryz.ntmps10
  go_upto_region 3 with (go_at_call 35; (with_reducible refine (FA.out _).mono ?_); rintro y w1 ⟨g, rfl, hg, hrow, hb⟩; have B1 := hide (B0.out.trans (hb.mono B0.out.size)); have X1 := hide (X0.out.below hb X0.out.lt); have ROW := hide hrow; have hg1 := hg; clear hb hrow hg)
  obtain ⟨c0, o1, c, k, hV1, hP1⟩ := tail_run HN.out ROW.out
  have RB := hide (row_block ROW.out)
  have hDl : Hid (∀ wx, Below w1.heap.size w1 wx → Calls Tryz.prog 37 #[.pointer (some ⟨db, 0, none⟩), .agg #[.string x, .slice (some ⟨g, o1, none⟩) k c, .int .i64 0]] wx fun e w' => ∃ o s', Ob s x xs o s' ∧ (Th s x xs = none → e = .returned (.string o)) ∧ (∀ n : Nat, Th s x xs = some n → n ≤ 100 ∧ e = thrown (n : Int) ∧ o = wrongB (n : Int)) ∧ D s' w' ∧ Quiet wx w') := hide fun wx hb =>
    hO s wx x xs _ (hD s w wx HS.out ((Noise.of_below B1.out HV.out.n).trans (Noise.of_below hb (Nat.le_trans HV.out.n B1.out.size)))) hc (HV.out.low ((B1.out.mono HV.out.n).trans (hb.mono (Nat.le_trans HV.out.n B1.out.size))) (Nat.le_trans B1.out.size hb.size)) (hP1.below hb rfl) (by
      have := words_wt (textL l)
      rw [h0] at this
      have hz : (textL l).size = l.length := rfl
      omega)
  have CD := hide (hDl.out w1.drew (Below.refl _ w1).drew)
  have hne : ¬ g = w.heap.size := by simp at hg1; omega
  have hne2 : ¬ w.heap.size = g := fun e => hne e.symm
  clear hP1 hO h0 hl hDl
  go_upto_region 5 with fail
  refine wp_region_held (S := fun wx => wx.cell? ⟨g, 0, none⟩ = some (.string x)) (by kernel_rfl) ?_
  have c0' : w1.drew.cell? ⟨g, 0, none⟩ = some (.string x) := c0
  have nz3 : ¬ n = 0 := by omega
  refine wpAnyH_take (i := 0) (v := .pointer (some ⟨db, 0, none⟩)) rfl (by kernel_rfl) (by kernel_rfl) (by kernel_rfl) (fun c a w h => panic_put _ (by decide) _ _ _ c a w h) (Or.inl ⟨by rfl, fun wx hx => by simp [go_sem]⟩) c0 ?_
  refine wpAnyH_take (i := 1) (v := .slice (some ⟨g, 0, none⟩) n n) rfl (by kernel_rfl) (by kernel_rfl) (by kernel_rfl) (fun c a w h => panic_put _ (by decide) _ _ _ c a w h) (Or.inl ⟨by rfl, fun wx hx => by simp [go_sem]⟩) c0 ?_
  refine wpAnyH_take (i := 2) (v := .pointer (some ⟨g, 0, none⟩)) rfl (by kernel_rfl) (by kernel_rfl) (by kernel_rfl) (fun c a w h => panic_put _ (by decide) _ _ _ c a w h) (Or.inl ⟨by rfl, fun wx hx => by simp [go_sem, nz3]⟩) c0 ?_
  refine wpAnyH_take (i := 3) (v := .string x) rfl (by kernel_rfl) (by kernel_rfl) (by kernel_rfl) (fun c a w h => panic_put _ (by decide) _ _ _ c a w h) (Or.inl ⟨by rfl, fun wx hx => by simp [go_sem, hx]⟩) c0 ?_
  refine wpAnyH_take (i := 4) (v := .slice (some ⟨g, 0, none⟩) n n) rfl (by kernel_rfl) (by kernel_rfl) (by kernel_rfl) (fun c a w h => panic_put _ (by decide) _ _ _ c a w h) (Or.inl ⟨by rfl, fun wx hx => by simp [go_sem]⟩) c0 ?_
  refine wpAnyH_take (i := 5) (v := .slice (some ⟨g, o1, none⟩) k c) rfl (by kernel_rfl) (by kernel_rfl) (by kernel_rfl) (fun c a w h => panic_put _ (by decide) _ _ _ c a w h) (Or.inl ⟨by rfl, fun wx hx => by simp [go_sem, hV1]⟩) c0 ?_
  refine wpAnyH_take (i := 6) (v := .agg #[.string x, .slice (some ⟨g, o1, none⟩) k c, .int .i64 0]) rfl (by kernel_rfl) (by kernel_rfl) (by kernel_rfl) (fun c a w h => panic_put _ (by decide) _ _ _ c a w h) (Or.inl ⟨by rfl, fun wx hx => by simp [go_sem]⟩) c0 ?_
  refine wpAnyH_all (rs := [7]) (by kernel_rfl) (by simp) ?_
  intro i hi
  obtain rfl : i = 7 := by simpa using hi
  simp [wpOp, Oper.wp, Oper.upon, go_sem]
  refine Or.inl (CD.out.mono ?_)
  rintro e w2 ⟨o, s', hob, _, hy, hd2, hq2⟩
  obtain ⟨hm, rfl, rfl⟩ := hy m hth
  clear hy
  have h11 := HV.out.n
  have _hk11 := lowK_le
  have q2 : Quiet w w2 := ((Quiet.of_below B1.out h11).trans (Quiet.of_below (Below.refl _ w1).drew (Nat.le_trans h11 B1.out.size))).trans hq2
  have X2 := hq2.has X1.out.drew
  have P2 := (HV.out.low q2.low q2.size).p
  refine leaves_cons (f := 34) (args := #[.pointer (some ⟨w.heap.size, 0, none⟩)]) (by simp) (by simp [go_sem]) ?_
  refine (catch_thrown w.heap.size _ (m : Int) (by omega) (by omega) _ _ X2 P2).mono ?_
  rintro e u' w'' ⟨rfl, rfl, w3, hb3, rfl⟩
  have X3 := X2.below hb3 X2.lt
  have h112 : lowK ≤ w2.heap.size := Nat.le_trans h11 q2.size
  have q3 := (q2.trans (Quiet.of_below hb3 h112)).set (Nat.le_refl _) h11 (.string (wrongB (m : Int)))
  have hs3 := hD s' w2 _ hd2 ((Noise.of_below hb3 h112).trans (Noise.of_set X3 h11 (.string (wrongB (m : Int)))))
  have c3 : (w3.setCell ⟨w.heap.size, 0, none⟩ (.string (wrongB (m : Int)))).cell? ⟨w.heap.size, 0, none⟩ = some (.string (wrongB (m : Int))) := (X3.set 0 (.string (wrongB (m : Int)))).cell 0
  generalize w3.setCell ⟨w.heap.size, 0, none⟩ (.string (wrongB (m : Int))) = w4 at c3 hs3 q3 ⊢
  simp [Leaves, settle, results, Tryz.results10, go_sem, c3]
  exact ⟨_, s', hob, rfl, hs3, q3⟩
/-- A line's answer, whatever it is. -/
theorem answer_any {S : Type} {D : S → World → Prop} {Ob : S → ByteArray → List ByteArray → ByteArray → S → Prop} {Th : S → ByteArray → List ByteArray → Option Nat} (hD : ∀ s w w', D s w → Noise w w' → D s w') (db : Nat) {cnt : S → Nat} (hO : Obeys D Ob Th cnt db) (s : S) (hc : cnt s ≤ 30000) (l : List UInt8) (hl : l.length ≤ 30000) (w : World) (hs : D s w) (hV : Vars w) :
    Calls Tryz.prog 10 #[.pointer (some ⟨db, 0, none⟩), .string (textL l)] w fun e w' => ∃ o s', AnsOf Ob s l o s' ∧ e = .returned (.string o) ∧ D s' w' ∧ Quiet w w' := by
  cases h0 : wordsB (textL l) with
  | nil =>
    refine (answer_none hD db s l hl h0 w hs hV).mono ?_
    rintro e w' ⟨rfl, h1, h2⟩
    exact ⟨okB, s, by simp [AnsOf, h0], rfl, h1, h2⟩
  | cons x xs =>
    have hA : Calls Tryz.prog 10 #[.pointer (some ⟨db, 0, none⟩), .string (textL l)] w fun e w' => ∃ o s', Ob s x xs o s' ∧ e = .returned (.string o) ∧ D s' w' ∧ Quiet w w' := by
      cases hth : Th s x xs with
      | none => exact answer_obeyed hD db hO s hc l hl x xs h0 w hs hV hth
      | some m => exact answer_thrown hD db hO s hc l hl x xs h0 w hs hV m hth
    refine hA.mono ?_
    rintro e w' ⟨o, s', ho, h1, h2, h3⟩
    exact ⟨o, s', by simpa [AnsOf, h0] using ho, h1, h2, h3⟩
end Go.Proofs.YtdjpghgnjcmdnaaGreatDoor

/- A session's lines: the library's iterator over them, as it is made. -/
namespace Go.Proofs.YtdjpghgnjcmdnaaGreatDoor
open Go.RowKit Go.Shelf Go.Sort
attribute [local go_sem ↓] Go.wp_at_zero Go.wp_at_succ
/-- The iterator over lines, and the boxes that it has. -/
def seqV (B : Nat) : Value := .func (.func 101) #[] #[.pointer (some ⟨B + 1, 0, none⟩), .pointer (some ⟨B, 0, none⟩), .pointer (some ⟨B + 2, 0, none⟩)]
set_option maxRecDepth 100000 in
set_option maxHeartbeats 1000000 in
theorem split_any (s t : ByteArray) (w : World) : Calls Tryz.prog 69 #[.string s, .string t, .int .i64 0] w fun e w' => e = .returned (seqV w.heap.size) ∧ w' = ((w.alloc (.cells #[.string s] 9)).alloc (.cells #[.string t] 9)).alloc (.cells #[.int .i64 0] 3) := by
  go_enter Tryz.func69, Tryz.ntmps69
  go_wp2
  go_ret
  exact ⟨rfl, rfl⟩
set_option maxRecDepth 100000 in
set_option maxHeartbeats 1000000 in
theorem splitSeq_any (s t : ByteArray) (w : World) : Calls Tryz.prog 31 #[.string s, .string t] w fun e w' => e = .returned (seqV w.heap.size) ∧ w' = ((w.alloc (.cells #[.string s] 9)).alloc (.cells #[.string t] 9)).alloc (.cells #[.int .i64 0] 3) := by
  have A := hide (split_any s t w)
  go_enter Tryz.func31, Tryz.ntmps31
  go_wp2_with (go_at_call 69; (with_reducible refine A.out.mono ?_); rintro y w1 ⟨rfl, rfl⟩)
  go_ret
  exact ⟨rfl, rfl⟩
theorem trim_eq (l : List UInt8) : Lib.trimSuffix l [10] = trimN l := by
  unfold Lib.trimSuffix trimN
  rcases List.eq_nil_or_concat l with rfl | ⟨a, c, rfl⟩
  · simp [Lib.hasSuffix]
  · simp [Lib.hasSuffix, List.isSuffixOf, List.isPrefixOf]
    try (simp only [eq_comm])
/-- What the iterator over a text's lines lays. -/
def linesW (l : List UInt8) (w : World) : World := ((w.alloc (.cells #[.string (textL (trimN l))] 9)).alloc (.cells #[.string ⟨#[10]⟩] 9)).alloc (.cells #[.int .i64 0] 3)
set_option maxRecDepth 100000 in
set_option maxHeartbeats 1000000 in
theorem lines_any (l : List UInt8) (hl : l.length ≤ 30000) (w : World) : Calls Tryz.prog 8 #[.string (textL l)] w fun e w' => e = .returned (seqV w.heap.size) ∧ w' = linesW l w := by
  have T := hide (trim_any l hl w)
  rw [trim_eq] at T
  have A := hide (splitSeq_any (textL (trimN l)) ⟨#[10]⟩ w)
  clear hl
  go_enter Tryz.func8, Tryz.ntmps8
  go_wp2_with (first
    | (go_at_call 32; (with_reducible refine T.out.mono ?_); rintro y w1 ⟨rfl, rfl⟩)
    | (go_at_call 31; (with_reducible refine A.out.mono ?_); rintro y w1 ⟨rfl, rfl⟩))
  go_ret
  exact ⟨rfl, rfl⟩
end Go.Proofs.YtdjpghgnjcmdnaaGreatDoor

/- A session's own blocks: what the rounds of its loop keep. -/
namespace Go.Proofs.YtdjpghgnjcmdnaaGreatDoor
open Go.RowKit Go.Shelf Go.Sort
set_option linter.unusedSectionVars false
variable [Inhabited LowT]
/-- The blocks of a session's own: its builder's, and the box in which its desk's address lies. -/
def ownT (t : TypeId) : Prop := t = 40 ∨ t = 5 ∨ t = 26
def OwnKept (w w' : World) : Prop := ∀ (k : Nat) (cs : Array Value) (t : TypeId) (fz : Nat × Nat), w.heap[k]? = some (.cells cs t fz) → ownT t → w'.heap[k]? = some (.cells cs t fz)
theorem bld_at {B b : Nat} {p : Value} {bs : List Value} {w w' : World} (h : Lib.BuilderAtF 40 5 B b p bs w) (k : OwnKept w w') : Lib.BuilderAtF 40 5 B b p bs w' := by
  obtain ⟨hB, v, hb, hown, hne⟩ := h
  refine ⟨hB, v, k _ _ _ _ hb (.inl rfl), ⟨hown.1, ?_⟩, hne⟩
  rcases hown.2 with hn | ⟨g, cap, cur, fz, hv, hbg, hg, rest⟩
  · exact .inl hn
  · exact .inr ⟨g, cap, cur, fz, hv, hbg, k _ _ _ _ hg (.inr (.inl rfl)), rest⟩
theorem bld_keep {B b : Nat} {bs : List Value} {w w' : World} (h : Lib.IsBuilderF 40 5 B b bs w) (k : OwnKept w w') : Lib.IsBuilderF 40 5 B b bs w' :=
  h.elim (fun x => .inl (bld_at x k)) (fun x => .inr (bld_at x k))
theorem Quiet.own {w w' : World} (h : Quiet w w') : OwnKept w w' := fun k cs t fz hk ht => h.keep k _ hk (.inr ⟨cs, t, fz, rfl, by rcases ht with e | e | e <;> simp [e]⟩)
theorem Noise.grown {w w' : World} {row : Option Nat} (hg : w.grownBy w' row) (h11 : lowK ≤ w.heap.size) (hr : ∀ r, row = some r → lowK ≤ r ∧ ∃ o : Obj, w.heap[r]? = some o ∧ bookB o) : Noise w w' := by
  refine ⟨?_, hg.size, fun k o hk hq => ?_⟩
  · exact ⟨hg.1, hg.2, hg.3, hg.size, fun k hk => hg.block k (by omega) (fun e => by have := (hr k e.symm).1; omega)⟩
  · exact (hg.block k (block_old hk) (fun e => by
      obtain ⟨_, o', ho, hb⟩ := hr k e.symm
      rw [hk] at ho
      cases ho
      exact hq (.inl hb))).trans hk
theorem cells_grown {w w' : World} {row : Option Nat} (hg : w.grownBy w' row) (hr : ∀ r, row = some r → ∃ o : Obj, w.heap[r]? = some o ∧ bookB o) {k : Nat} {cs : Array Value} {t : TypeId} {fz : Nat × Nat} (hk : w.heap[k]? = some (.cells cs t fz)) : w'.heap[k]? = some (.cells cs t fz) :=
  (hg.block k (block_old hk) (fun e => by
    obtain ⟨o', ho, hb⟩ := hr k e.symm
    rw [hk] at ho
    cases ho
    rcases hb with ⟨_, h⟩ | ⟨_, h⟩ <;> cases h)).trans hk
/-- What a session writes behind a line's answer turns nothing of its desk's. -/
theorem Noise.wrote {w w' : World} {b : Nat} {o : Obj} (hb : Below b w w') (h11 : lowK ≤ b) (hk : Lib.OthersKept 5 (some b) w w') (ho : w.heap[b]? = some o) (hq : quietB o) : Noise w w' :=
  ⟨hb.mono h11, hb.size, fun k x hx hnq => hk k x hx (fun e => by cases e; rw [ho] at hx; cases hx; exact hnq hq) (fun c fz e => hnq (.inr ⟨c, 5, fz, e, by simp⟩))⟩
/-- The boxes of the iterator over lines. -/
def Boxes (Bs : Nat) (W : World) : Prop := (∃ v, HasR W Bs 9 #[v]) ∧ HasR W (Bs + 1) 9 #[.string ⟨#[10]⟩] ∧ HasR W (Bs + 2) 3 #[.int .i64 0]
theorem Boxes.kept {Bs : Nat} {W W' : World} (h : Boxes Bs W) (k : ∀ (i : Nat) (cs : Array Value) (t : TypeId) (fz : Nat × Nat), W.heap[i]? = some (.cells cs t fz) → t = 9 ∨ t = 3 → W'.heap[i]? = some (.cells cs t fz)) : Boxes Bs W' := by
  obtain ⟨⟨v, h1⟩, h2, h3⟩ := h
  exact ⟨⟨v, k _ _ _ _ h1 (.inl rfl)⟩, k _ _ _ _ h2 (.inl rfl), k _ _ _ _ h3 (.inr rfl)⟩
/-- The state of a session's loop behind its first lines. -/
def Held {S : Type} (D : S → World → Prop) (Ans : S → List UInt8 → List UInt8 → S → Prop) (s0 : S) (wS : World) (b Bs db dB : Nat) (pre : List Ln) (W : World) : Prop :=
  ∃ out s, RunsTo Ans s0 (valsL pre) out s ∧ out.length ≤ pre.length * 1000000001 ∧ D s W ∧ Lib.IsBuilderF 40 5 b b (Lib.byteCells out) W ∧ HasR W dB 26 #[.pointer (some ⟨db, 0, none⟩)] ∧ Boxes Bs W ∧ Vars W ∧ Below lowK wS W
theorem Held.kept {S : Type} {D : S → World → Prop} (hD : ∀ s w w', D s w → Noise w w' → D s w') {Ans : S → List UInt8 → List UInt8 → S → Prop} {s0 : S} {wS : World} {b Bs db dB : Nat} {pre : List Ln} {W W' : World} (h : Held D Ans s0 wS b Bs db dB pre W) (hn : Noise W W') (hk : OwnKept W W') (hs : Boxes Bs W → Boxes Bs W') : Held D Ans s0 wS b Bs db dB pre W' := by
  obtain ⟨out, s, h1, h2, h3, h4, h5, h6, h7, h8⟩ := h
  exact ⟨out, s, h1, h2, hD s W W' h3 hn, bld_keep h4 hk, hk _ _ _ _ h5 (.inr (.inr rfl)), hs h6, h7.low hn.low hn.size, h8.trans hn.low⟩
theorem Held.aside {S : Type} {D : S → World → Prop} (hD : ∀ s w w', D s w → Noise w w' → D s w') {Ans : S → List UInt8 → List UInt8 → S → Prop} {s0 : S} {wS : World} {b Bs db dB B : Nat} (hB : lowK ≤ B) : Aside B (Held D Ans s0 wS b Bs db dB) := by
  intro pre W W' row h hg hr
  have hr' : ∀ r, row = some r → ∃ o : Obj, W.heap[r]? = some o ∧ bookB o := fun r e => (hr r e).2
  have hv : lowK ≤ W.heap.size := by obtain ⟨_, _, _, _, _, _, _, _, h7, _⟩ := h; exact h7.n
  exact h.kept hD (Noise.grown hg hv (fun r e => ⟨Nat.le_trans hB (hr r e).1, (hr r e).2⟩)) (fun k cs t fz hk _ => cells_grown hg hr' hk) (fun hx => hx.kept fun i cs t fz hi _ => cells_grown hg hr' hi)
theorem Held.box {S : Type} {D : S → World → Prop} (hD : ∀ s w w', D s w → Noise w w' → D s w') {Ans : S → List UInt8 → List UInt8 → S → Prop} {s0 : S} {wS : World} {b Bs db dB : Nat} (hB : lowK ≤ Bs) (pre : List Ln) (W : World) (v : Value) (h : Held D Ans s0 wS b Bs db dB pre W) : Held D Ans s0 wS b Bs db dB pre (W.setCell ⟨Bs, 0, none⟩ v) := by
  obtain ⟨x, hx⟩ : ∃ x, HasR W Bs 9 #[x] := by obtain ⟨_, _, _, _, _, _, _, h6, _⟩ := h; exact h6.1
  refine h.kept hD (Noise.of_set hx hB v) (fun k cs t fz hk ht => ?_) (fun hy => ⟨⟨v, by simpa using HasR.set hx 0 v⟩, hy.2.1.other _ (by simp) v, hy.2.2.other _ (by simp) v⟩)
  have hne : k ≠ Bs := fun e => by
    subst e
    rw [show W.heap[k]? = _ from hx] at hk
    cases hk
    rcases ht with e | e | e <;> cases e
  exact (Below.heap_setCell _ _ _ _ (fun e => hne e)).trans hk
theorem RunsTo.ne {S : Type} {Ans : S → List UInt8 → List UInt8 → S → Prop} {xs : List (List UInt8)} {s t : S} {out : List UInt8} (h : RunsTo Ans s xs out t) (hx : xs ≠ []) : out ≠ [] := by
  cases xs with
  | nil => exact absurd rfl hx
  | cons x xs =>
    obtain ⟨o, s', r, _, _, rfl⟩ := h
    simp
end Go.Proofs.YtdjpghgnjcmdnaaGreatDoor

/- A round of a session's loop: a line is answered and its answer is written. -/
namespace Go.Proofs.YtdjpghgnjcmdnaaGreatDoor
open Go.RowKit Go.Shelf Go.Sort
set_option linter.unusedSectionVars false
variable [Inhabited LowT]
/-- An answer of no more than a billion bytes. -/
def Fits (o : ByteArray) : Prop := o.size ≤ 1000000000
theorem run_add_nl (w : World) (o : ByteArray) (h : Fits o) : (Op.stringOp .add o ⟨#[10]⟩).run Tryz.prog w = .ok (.string (o ++ ⟨#[10]⟩)) w :=
  run_string_add_sum w o _ (by have : (⟨#[10]⟩ : ByteArray).size = 1 := rfl; unfold Fits at h; omega)
theorem size_nl (o : ByteArray) : (o ++ (⟨#[10]⟩ : ByteArray)).size = o.size + 1 := by
  rw [ByteArray.size_append]
  rfl
theorem textL_of (o : ByteArray) : textL o.data.toList = o := by
  cases o
  simp [textL]
theorem cells_next (out : List UInt8) (o : ByteArray) : Lib.byteCells out ++ Lib.strCells (o ++ ⟨#[10]⟩) = Lib.byteCells (out ++ (o.data.toList ++ [10])) := by
  simp [Lib.byteCells, Lib.strCells, ByteArray.data_append]
theorem bld_block {B b : Nat} {bs : List Value} {w : World} (h : Lib.IsBuilderF 40 5 B b bs w) : ∃ cs, HasR w b 40 cs := by
  rcases h with ⟨_, v, hb, _⟩ | ⟨_, v, hb, _⟩ <;> exact ⟨_, hb⟩
theorem held_next {S : Type} {D : S → World → Prop} {Ob : S → ByteArray → List ByteArray → ByteArray → S → Prop} (hD : ∀ s w w', D s w → Noise w w' → D s w') {s0 : S} {wS : World} {b Bs db dB : Nat} (h11 : lowK ≤ b) {pre : List Ln} {x : Ln} {W0 W W2 W3 : World} {out : List UInt8} {s s' : S} {o : ByteArray}
    (h1 : RunsTo (fun s l o s' => AnsOf Ob s l (textL o) s') s0 (valsL pre) out s) (h2 : out.length ≤ pre.length * 1000000001) (h4 : Lib.IsBuilderF 40 5 b b (Lib.byteCells out) W) (h5 : HasR W dB 26 #[.pointer (some ⟨db, 0, none⟩)]) (h6 : Boxes Bs W) (h7 : Vars W) (h8 : Below lowK wS W)
    (ho : AnsOf Ob s x.val o s') (hfit : Fits o) (hd2 : D s' W2) (hq2 : Quiet W W2) (hA : Lib.BuilderAtF 40 5 b b (.pointer (some ⟨b, 0, none⟩)) (Lib.byteCells out ++ Lib.strCells (o ++ ⟨#[10]⟩)) W3) (hb3 : Below b W2 W3) (hk3 : Lib.OthersKept 5 (some b) W2 W3) :
    (∀ r, Book W0 W r → Book W0 W3 r) ∧ KpL lowK (Bs + 1) Bs (Bs + 2) W W3 ∧ Held D (fun s l o s' => AnsOf Ob s l (textL o) s') s0 wS b Bs db dB (pre ++ [x]) W3 := by
  obtain ⟨cs, hcs⟩ := bld_block (bld_keep h4 hq2.own)
  have kb : ∀ (i : Nat) (y : Obj), W.heap[i]? = some y → bookB y → W3.heap[i]? = some y := fun i y hy hb => by
    have e2 := hq2.keep i y hy (.inl hb)
    refine hk3 i y e2 (fun e => ?_) (fun c fz e => ?_)
    · cases e
      rw [show W2.heap[b]? = _ from hcs] at e2
      cases e2
      rcases hb with ⟨_, h⟩ | ⟨_, h⟩ <;> cases h
    · subst e
      rcases hb with ⟨_, h⟩ | ⟨_, h⟩ <;> cases h
  have kc : ∀ (i : Nat) (c : Array Value) (t : TypeId) (fz : Nat × Nat), W.heap[i]? = some (.cells c t fz) → t = 9 ∨ t = 3 ∨ t = 26 → W3.heap[i]? = some (.cells c t fz) := fun i c t fz hy ht => by
    have e2 := hq2.keep i _ hy (.inr ⟨c, t, fz, rfl, by rcases ht with e | e | e <;> simp [e]⟩)
    refine hk3 i _ e2 (fun e => ?_) (fun c' fz' e => ?_)
    · cases e
      rw [show W2.heap[b]? = _ from hcs] at e2
      cases e2
      rcases ht with e | e | e <;> cases e
    · cases e
      rcases ht with e | e | e <;> cases e
  have hB3 : Below lowK W W3 := hq2.low.trans (hb3.mono h11)
  obtain ⟨⟨v6, hv6⟩, hp6, hi6⟩ := h6
  have e1 := kc _ _ _ _ hv6 (.inl rfl)
  have e2 := kc _ _ _ _ hp6 (.inl rfl)
  have e3 := kc _ _ _ _ hi6 (.inr (.inl rfl))
  refine ⟨fun r bk => ⟨kb _ _ bk.loop (.inl ⟨_, rfl⟩), kb _ _ bk.door (.inr ⟨_, rfl⟩)⟩, ⟨hB3, e2.trans hp6.symm, e1.trans hv6.symm, e3.trans hi6.symm⟩, out ++ (o.data.toList ++ [10]), s', ?_, ?_, hD s' W2 W3 hd2 (Noise.wrote hb3 h11 hk3 hcs (.inr ⟨cs, 40, (0, 0), rfl, by simp⟩)), ?_, kc _ _ _ _ h5 (.inr (.inr rfl)), ⟨⟨v6, e1⟩, e2, e3⟩, h7.low hB3 hB3.size, h8.trans hB3⟩
  · rw [valsL_snoc]
    refine h1.snoc ?_
    show AnsOf Ob s x.val (textL o.data.toList) s'
    rw [textL_of]
    exact ho
  · have : o.data.toList.length = o.size := by simp
    unfold Fits at hfit
    simp only [List.length_append, List.length_singleton]
    omega
  · rw [← cells_next]
    exact .inr hA
end Go.Proofs.YtdjpghgnjcmdnaaGreatDoor
