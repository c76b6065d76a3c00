/- Texts of this proof, one behind the other. -/
import Derived.Lib.TrimU
import Derived.Deep.RegionHeld3
import Derived.Test.YtdjpghgnjcmdnaaGreatDoorPart10
/- A line's words are no longer than the line, blanks between them told. -/
namespace Go.Proofs.YtdjpghgnjcmdnaaGreatDoor
open Go.RowKit Go.Shelf Go.Sort
def wt (l : List (Nat × Nat)) : Nat := (l.map fun x => x.2 - x.1 + 1).sum
theorem wt_snoc (l : List (Nat × Nat)) (a b : Nat) : wt (l ++ [(a, b)]) = wt l + (b - a + 1) := by simp [wt]
def stOk (acc : List (Nat × Nat)) (pos : Nat) : Option Nat → Prop
  | none => wt acc ≤ pos
  | some a => wt acc ≤ a ∧ a ≤ pos
theorem spans_wt (p : Nat → Bool) (s : ByteArray) : ∀ (f pos : Nat) (st : Option Nat) (acc : List (Nat × Nat)), wt acc ≤ s.size → stOk acc pos st → (∀ a, st = some a → a ≤ s.size) →
    wt (Lib.spansFromP p s f pos st acc).1 ≤ s.size ∧ (∀ a, (Lib.spansFromP p s f pos st acc).2 = some a → wt (Lib.spansFromP p s f pos st acc).1 ≤ a ∧ a ≤ s.size)
  | 0, pos, st, acc, h, k, m => by
    unfold Lib.spansFromP
    refine ⟨h, fun a e => ?_⟩
    have e' : st = some a := e
    subst e'
    exact ⟨k.1, m a rfl⟩
  | f + 1, pos, st, acc, h, k, m => by
    have hw : 1 ≤ (Utf8.decode s pos).2 := Lib.width_pos s pos
    unfold Lib.spansFromP
    by_cases hp : pos < s.size
    · rw [if_pos hp]
      by_cases hq : p (Utf8.decode s pos).1 = true
      · rw [if_pos hq]
        cases st with
        | none => exact spans_wt p s f _ none acc h (by have : wt acc ≤ pos := k; show wt acc ≤ _; omega) (fun a e => by cases e)
        | some a =>
          obtain ⟨k1, k2⟩ : wt acc ≤ a ∧ a ≤ pos := k
          exact spans_wt p s f _ none _ (by rw [wt_snoc]; omega) (by show wt _ ≤ _; rw [wt_snoc]; omega) (fun a e => by cases e)
      · rw [if_neg hq]
        cases st with
        | none => exact spans_wt p s f _ (some pos) acc h (by have : wt acc ≤ pos := k; exact ⟨this, by omega⟩) (fun a e => by cases e; omega)
        | some a =>
          obtain ⟨k1, k2⟩ : wt acc ≤ a ∧ a ≤ pos := k
          exact spans_wt p s f _ (some a) acc h ⟨k1, by omega⟩ m
    · rw [if_neg hp]
      refine ⟨h, fun a e => ?_⟩
      have e' : st = some a := e
      subst e'
      exact ⟨k.1, m a rfl⟩
theorem pieces_wt (s : ByteArray) : ∀ l : List (Nat × Nat), ((l.map fun x => s.extract x.1 x.2).map fun x => x.size + 1).sum ≤ wt l
  | [] => Nat.le_refl _
  | x :: l => by
    have ih := pieces_wt s l
    have h1 : (s.extract x.1 x.2).size ≤ x.2 - x.1 := by rw [ByteArray.size_extract]; omega
    unfold wt at ih ⊢
    simp only [List.map_cons, List.sum_cons]
    omega
theorem words_wt (s : ByteArray) : ((wordsB s).map fun x => x.size + 1).sum ≤ s.size + 1 := by
  have h := spans_wt blankR s s.size 0 none [] (by simp [wt]) (by show wt [] ≤ 0; simp [wt]) (fun a e => by cases e)
  refine Nat.le_trans (pieces_wt s (Lib.spansOfP blankR s)) ?_
  unfold Lib.spansOfP Lib.closeSpans
  split
  · rename_i a ha
    obtain ⟨h1, h2⟩ := h.2 a ha
    rw [wt_snoc]
    omega
  · omega
end Go.Proofs.YtdjpghgnjcmdnaaGreatDoor

/- A line's answer, out of what obeying it comes to: over whatever a desk is in memory. -/
namespace Go.Proofs.YtdjpghgnjcmdnaaGreatDoor
open Go.RowKit Go.Shelf Go.Sort
attribute [local go_sem ↓] Go.wp_at_zero Go.wp_at_succ
/-- The bound below which nothing is the desk's: a letter, the program's variables lie below it. -/
abbrev LowT := {k : Nat // 11 ≤ k}
set_option linter.unusedSectionVars false
variable [Inhabited LowT]
def lowK : Nat := (default : LowT).1
theorem lowK_le : 11 ≤ lowK := (default : LowT).2
/-- A block that is no desk's: texts, numbers, bytes, a builder; a loop's own book-keeping. -/
def quietB (o : Obj) : Prop := bookB o ∨ ∃ cs t fz, o = .cells cs t fz ∧ (t = 9 ∨ t = 3 ∨ t = 40 ∨ t = 5 ∨ t = 26)
/-- What a desk does: of what lay there it turns its own alone. -/
structure Quiet (w w' : World) : Prop where
  low : Below lowK w w'
  size : w.heap.size ≤ w'.heap.size
  keep : ∀ (k : Nat) (o : Obj), w.heap[k]? = some o → quietB o → w'.heap[k]? = some o
theorem Quiet.refl (w : World) : Quiet w w := ⟨Below.refl _ _, Nat.le_refl _, fun _ _ h _ => h⟩
theorem Quiet.trans {a b c : World} (h : Quiet a b) (k : Quiet b c) : Quiet a c := ⟨h.low.trans k.low, Nat.le_trans h.size k.size, fun i o hi ho => k.keep i o (h.keep i o hi ho) ho⟩
/-- What turns nothing of a desk's. -/
structure Noise (w w' : World) : Prop where
  low : Below lowK w w'
  size : w.heap.size ≤ w'.heap.size
  keep : ∀ (k : Nat) (o : Obj), w.heap[k]? = some o → ¬ quietB o → w'.heap[k]? = some o
theorem Noise.refl (w : World) : Noise w w := ⟨Below.refl _ _, Nat.le_refl _, fun _ _ h _ => h⟩
theorem Noise.trans {a b c : World} (h : Noise a b) (k : Noise b c) : Noise a c := ⟨h.low.trans k.low, Nat.le_trans h.size k.size, fun i o hi ho => k.keep i o (h.keep i o hi ho) ho⟩
theorem block_old {w : World} {k : Nat} {o : Obj} (h : w.heap[k]? = some o) : k < w.heap.size := (Array.getElem?_eq_some_iff.1 h).1
theorem Quiet.of_below {w w' : World} (h : Below w.heap.size w w') (h11 : lowK ≤ w.heap.size) : Quiet w w' := ⟨h.mono h11, h.size, fun k _ hk _ => (h.block k (block_old hk)).trans hk⟩
theorem Noise.of_below {w w' : World} (h : Below w.heap.size w w') (h11 : lowK ≤ w.heap.size) : Noise w w' := ⟨h.mono h11, h.size, fun k _ hk _ => (h.block k (block_old hk)).trans hk⟩
theorem Quiet.has {w w' : World} {b : Nat} {cs : Array Value} (h : Quiet w w') (hx : HasR w b 9 cs) : HasR w' b 9 cs := h.keep _ _ hx (.inr ⟨_, _, _, rfl, .inl rfl⟩)
theorem Noise.of_set {w : World} {b : Nat} {cs : Array Value} (hx : HasR w b 9 cs) (h11 : lowK ≤ b) (v : Value) : Noise w (w.setCell ⟨b, 0, none⟩ v) := by
  refine ⟨(Below.refl lowK w).setCell (p := ⟨b, 0, none⟩) h11 v, by simp, fun k o hk hq => ?_⟩
  have hne : k ≠ b := fun e => by
    subst e
    rw [show w.heap[k]? = _ from hx] at hk
    cases hk
    exact hq (.inr ⟨_, _, _, rfl, .inl rfl⟩)
  have := (grownBy_setCell' w b v).block k (block_old hk) (fun e => hne (by cases e; rfl))
  exact this.trans hk
/-- The variables of the library's and of the program's that a session reads. -/
structure Vars (w : World) : Prop where
  k : TabK w
  l : TabL w
  m : TabM w
  e : TabE w
  p : Pow w
  s : ErrS w
  n : lowK ≤ w.heap.size
theorem Vars.low {w w' : World} (h : Vars w) (hb : Below lowK w w') (hs : w.heap.size ≤ w'.heap.size) : Vars w' :=
  ⟨h.k.below hb (Nat.lt_of_lt_of_le (by decide) lowK_le), h.l.below hb (Nat.lt_of_lt_of_le (by decide) lowK_le), h.m.below hb (Nat.lt_of_lt_of_le (by decide) lowK_le), h.e.below hb (Nat.lt_of_lt_of_le (by decide) lowK_le), h.p.below hb (Nat.lt_of_lt_of_le (by decide) lowK_le), h.s.below hb (Nat.lt_of_lt_of_le (by decide) lowK_le), Nat.le_trans h.n hs⟩
/-- The words behind a line's first one. -/
def LineW (w : World) (v : Value) (xs : List ByteArray) : Prop := Parts w v xs ∧ ∃ p c, v = .slice p xs.length c ∧ xs.length ≤ c
theorem LineW.below {w w' : World} {v : Value} {xs : List ByteArray} {B : Nat} (h : LineW w v xs) (hb : Below B w w') (hB : B = w.heap.size) : LineW w' v xs := ⟨h.1.below hb hB, h.2⟩
/-- What obeying comes to: an answer, or what was thrown; the desk is another one then. -/
def Obeys {S : Type} (D : S → World → Prop) (Ob : S → ByteArray → List ByteArray → ByteArray → S → Prop) (Th : S → ByteArray → List ByteArray → Option Nat) (cnt : S → Nat) (db : Nat) : Prop :=
  ∀ (s : S) (w : World) (x : ByteArray) (xs : List ByteArray) (v : Value), D s w → cnt s ≤ 30000 → Vars w → LineW w v xs → (((x :: xs).map fun y => y.size + 1).sum ≤ 30001) →
    Calls Tryz.prog 37 #[.pointer (some ⟨db, 0, none⟩), .agg #[.string x, v, .int .i64 0]] w fun e w' => ∃ o s', Ob s x xs o s' ∧ (Th s x xs = none → e = .returned (.string o)) ∧ (∀ n : Nat, Th s x xs = some n → n ≤ 100 ∧ e = thrown (n : Int) ∧ o = wrongB (n : Int)) ∧ D s' w' ∧ Quiet w w'
def okB : ByteArray := ⟨#[111, 107]⟩
/-- A line's answer. -/
def AnsOf {S : Type} (Ob : S → ByteArray → List ByteArray → ByteArray → S → Prop) (s : S) (l : List UInt8) (o : ByteArray) (s' : S) : Prop :=
  match wordsB (textL l) with
  | [] => o = okB ∧ s' = s
  | x :: xs => Ob s x xs o s'
set_option maxRecDepth 100000 in
set_option maxHeartbeats 2000000 in
theorem answer_none {S : Type} {D : S → World → Prop} (hD : ∀ s w w', D s w → Noise w w' → D s w') (db : Nat) (s : S) (l : List UInt8) (hl : l.length ≤ 30000) (h0 : wordsB (textL l) = []) (w : World) (hs : D s w) (hV : Vars w) :
    Calls Tryz.prog 10 #[.pointer (some ⟨db, 0, none⟩), .string (textL l)] w fun e w' => e = .returned (.string okB) ∧ D s w' ∧ Quiet w w' := by
  have hmf : ∀ (fn : Fn) (first cap : Array Value) (w : World), (Instr.makeFunc fn first cap).run Tryz.prog w = .ok (.func fn first cap) w := fun _ _ _ _ => rfl
  have FA := hide (fun wx => fields_any (textL l) hl wx)
  rw [h0] at FA
  have X0 := hide (HasR.new w 9 #[.string ⟨#[]⟩])
  have B0 := hide ((Below.refl w.heap.size w).alloc (Nat.le_refl _) (.cells #[.string ⟨#[]⟩] 9))
  have HV := hide hV
  have HS := hide hs
  clear hs hV
  go_enter_defers Tryz.func10, Tryz.ntmps10
  go_wp2_with (go_at_call 35; (with_reducible refine (FA.out _).mono ?_); rintro y w1 ⟨g, rfl, hg, hrow, hb⟩; have B1 := hide (B0.out.trans (hb.mono B0.out.size)); have X1 := hide (X0.out.below hb X0.out.lt); have z0 : w1.cell? ⟨w.heap.size, 0, none⟩ = some (.string ⟨#[]⟩) := X1.out.cell 0; have f0 : w1.frozen? ⟨w.heap.size, 0, none⟩ = false := X1.out.free 0; clear hb hrow)
  have X2 := X1.out.set 0 (.string okB)
  have n1 : Noise w (w1.setCell ⟨w.heap.size, 0, none⟩ (.string okB)) := (Noise.of_below B1.out HV.out.n).trans (Noise.of_set X1.out HV.out.n _)
  have q1 : Quiet w (w1.setCell ⟨w.heap.size, 0, none⟩ (.string okB)) := Quiet.of_below (B1.out.setCell (p := ⟨w.heap.size, 0, none⟩) (Nat.le_refl _) _) HV.out.n
  have c2 : (w1.setCell ⟨w.heap.size, 0, none⟩ (.string okB)).cell? ⟨w.heap.size, 0, none⟩ = some (.string okB) := X2.cell 0
  have hs2 := hD s w _ HS.out n1
  unfold okB at c2 hs2 q1 ⊢
  refine leaves_cons (f := 34) (args := #[.pointer (some ⟨w.heap.size, 0, none⟩)]) (by simp) (by simp [go_sem]) ?_
  refine (catch_none w.heap.size _).mono ?_
  rintro e u' w'' ⟨rfl, rfl, rfl⟩
  generalize w1.setCell ⟨w.heap.size, 0, none⟩ (.string ⟨#[111, 107]⟩) = w3 at c2 hs2 q1 ⊢
  simp [Leaves, settle, results, Tryz.results10, go_sem, c2]
  exact ⟨hs2, q1⟩
end Go.Proofs.YtdjpghgnjcmdnaaGreatDoor

namespace Go.Proofs.YtdjpghgnjcmdnaaGreatDoor
open Go.RowKit Go.Shelf Go.Sort
set_option linter.unusedSectionVars false
variable [Inhabited LowT]
theorem leaves_same {fn : Func} {t t' : Array Value} {R : Ending → World → Prop} (h : results fn t = results fn t') : ∀ (ds : List Deferred) (u : FrameMode) (w : World), Leaves Tryz.prog fn t R ds u w → Leaves Tryz.prog fn t' R ds u w := by
  intro ds
  induction ds with
  | nil =>
    intro u w hl
    cases u with
    | returning => rw [Leaves, h] at hl; rw [Leaves]; exact hl
    | panicking c => rw [Leaves] at hl ⊢; exact hl
    | run => exact hl
  | cons d ds ih =>
    intro u w hl
    rw [Leaves] at hl ⊢
    obtain ⟨h1, fv, cap, f, args, h2, h3, h4⟩ := hl
    refine ⟨h1, fv, cap, f, args, h2, h3, ?_⟩
    refine CallsD.mono h4 ?_
    intro e u' w' hx
    cases e with
    | returned v => exact ih _ _ hx
    | panicked c => exact ih _ _ hx
    | outgrown => exact hx
/-- What panics leave to the door hangs on no slot but the answer's. -/
theorem panic_put (d : Option Tmp) (hd : d ≠ some 4) (v : Value) (K : Act → World → Prop) (R : Ending → World → Prop) (c : List PanicEntry) (a : Act) (w : World) (h : Exit.then K (bodyPostD Tryz.prog Tryz.f10 R) (.panic c) (a.put d v) w) : Exit.then K (bodyPostD Tryz.prog Tryz.f10 R) (.panic c) a w := by
  cases d with
  | none => exact h
  | some k =>
    have hk : k ≠ 4 := fun e => hd (by rw [e])
    refine leaves_same (t := (a.put (some k) v).tmps) ?_ _ _ _ h
    have e : (a.tmps.setIfInBounds k v)[4]? = a.tmps[4]? := Array.getElem?_setIfInBounds_ne hk
    simp [results, Tryz.results10, Act.put, e]
end Go.Proofs.YtdjpghgnjcmdnaaGreatDoor

/- A line's answer: a line that has words and is obeyed. -/
namespace Go.Proofs.YtdjpghgnjcmdnaaGreatDoor
open Go.RowKit Go.Shelf Go.Sort
attribute [local go_sem ↓] Go.wp_at_zero Go.wp_at_succ
set_option linter.unusedSectionVars false
variable [Inhabited LowT]
theorem tail_one (g : Nat) (w : World) : (Instr.slice 61 (.slice (some ⟨g, 0, none⟩) 1 1) (some (.int .i64 1)) none none).run Tryz.prog w = .ok (.slice (some ⟨g, 0, none⟩) 0 0) w := by kernel_rfl
theorem tail_more (g n : Nat) (h : 1 < n) (w : World) : (Instr.slice 61 (.slice (some ⟨g, 0, none⟩) n n) (some (.int .i64 1)) none none).run Tryz.prog w = .ok (.slice (some ⟨g, 1, none⟩) (n - 1) (n - 1)) w := by
  have u := run_underlying Tryz.underlying61
  have z := Tryz.sizeOf9
  have i1 : (1 : Int) ≤ (n : Int) := by omega
  simp [Instr.slice, Instr.sliceBounds, run_sliceBound, u, z, i1, go_sem]
  omega
/-- The words behind the first one, as they lie. -/
theorem tail_run {w : World} {base g n : Nat} {x : ByteArray} {xs : List ByteArray} (hn : n = xs.length + 1) (h : w.ownsRow base 9 1 (.slice (some ⟨g, 0, none⟩) n n) n ((x :: xs).map Value.string)) :
    w.cell? ⟨g, 0, none⟩ = some (.string x) ∧ ∃ o1 c k : Nat, (∀ w, (Instr.slice 61 (.slice (some ⟨g, 0, none⟩) n n) (some (.int .i64 1)) none none).run Tryz.prog w = .ok (.slice (some ⟨g, o1, none⟩) k c) w) ∧ LineW w (.slice (some ⟨g, o1, none⟩) k c) xs := by
  have hc : ∀ j, j < n → w.cell? ⟨g, j, none⟩ = ((x :: xs).map Value.string)[j]? := fun j hj => World.ownsRow.cellAt h j (by omega)
  refine ⟨hc 0 (by omega), ?_⟩
  by_cases h1 : n = 1
  · subst h1
    have hx : xs = [] := List.eq_nil_of_length_eq_zero (by omega)
    subst hx
    exact ⟨_, _, _, tail_one g, ⟨_, _, rfl, .inl rfl⟩, _, _, rfl, Nat.le_refl _⟩
  · have hl : xs.length = n - 1 := by omega
    refine ⟨_, _, _, tail_more g n (by omega), ⟨_, _, by rw [hl], .inr ⟨g, 1, rfl, ?_, fun k hk => ?_⟩⟩, _, _, by rw [hl], by omega⟩
    · have := hc 0 (by omega)
      exact block_lt_of_cell this
    · rw [hc (1 + k) (by omega), Nat.add_comm 1 k, List.map_cons, List.getElem?_cons_succ, List.getElem?_map, List.getD_eq_getElem?_getD, List.getElem?_eq_getElem hk]
      rfl
theorem row_block {w : World} {base g n c k : Nat} {xs : List Value} (h : w.ownsRow base 9 1 (.slice (some ⟨g, 0, none⟩) k c) n xs) : ∃ cur, HasR w g 9 cur := by
  rcases h.2 with ⟨e, _⟩ | ⟨g', cap, cur, e, hb, hh, _⟩
  · cases e
  · simp only [Value.slice.injEq, Option.some.injEq, Addr.mk.injEq] at e
    obtain ⟨⟨rfl, _⟩, _⟩ := e
    exact ⟨cur, hh⟩
theorem Quiet.cell {w w' : World} {b a : Nat} {cs : Array Value} (h : Quiet w w') (hx : HasR w b 9 cs) : w'.cell? ⟨b, a, none⟩ = w.cell? ⟨b, a, none⟩ := by
  have h1 : w.heap[b]? = some (.cells cs 9 (0, 0)) := hx
  have h2 : w'.heap[b]? = some (.cells cs 9 (0, 0)) := h.has hx
  simp only [World.cell?, h1, h2]
theorem Quiet.set {w w' : World} {b : Nat} (h : Quiet w w') (hb : w.heap.size ≤ b) (h11 : lowK ≤ b) (v : Value) : Quiet w (w'.setCell ⟨b, 0, none⟩ v) := by
  refine ⟨h.low.setCell (p := ⟨b, 0, none⟩) h11 v, by simpa using h.size, fun k o hk ho => ?_⟩
  have h1 := h.keep k o hk ho
  have := (grownBy_setCell' w' b v).block k (block_old h1) (fun e => by have := block_old hk; cases e; omega)
  exact this.trans h1
set_option maxRecDepth 100000 in
set_option maxHeartbeats 4000000 in
theorem answer_obeyed {S : Type} {D : S → World → Prop} {Ob : S → ByteArray → List ByteArray → ByteArray → S → Prop} {Th : S → ByteArray → List ByteArray → Option Nat} (hD : ∀ s w w', D s w → Noise w w' → D s w') (db : Nat) {cnt : S → Nat} (hO : Obeys D Ob Th cnt db) (s : S) (hc : cnt s ≤ 30000) (l : List UInt8) (hl : l.length ≤ 30000) (x : ByteArray) (xs : List ByteArray) (h0 : wordsB (textL l) = x :: xs) (w : World) (hs : D s w) (hV : Vars w) (hth : Th s x xs = none) :
    Calls Tryz.prog 10 #[.pointer (some ⟨db, 0, none⟩), .string (textL l)] w fun e w' => ∃ o s', Ob s x xs o s' ∧ e = .returned (.string o) ∧ D s' w' ∧ Quiet w w' := by
  have hmf : ∀ (fn : Fn) (first cap : Array Value) (w : World), (Instr.makeFunc fn first cap).run Tryz.prog w = .ok (.func fn first cap) w := fun _ _ _ _ => rfl
  have FA := hide (fun wx => fields_any (textL l) hl wx)
  rw [h0] at FA
  have X0 := hide (HasR.new w 9 #[.string ⟨#[]⟩])
  have B0 := hide ((Below.refl w.heap.size w).alloc (Nat.le_refl _) (.cells #[.string ⟨#[]⟩] 9))
  have HV := hide hV
  have HS := hide hs
  obtain ⟨n, hn⟩ : ∃ n, n = (x :: xs).length := ⟨_, rfl⟩
  rw [← hn] at FA
  have hn1 : n = xs.length + 1 := hn
  have nz : ((n : Int) == 0) = false := by rw [beq_eq_false_iff_ne]; omega
  have nz2 : ¬ (n : Int) = 0 := by omega
  have n0p : 0 < n := by omega
  have i0 : (0 : Int) < (n : Int) := by omega
  have i1 : (1 : Int) ≤ (n : Int) := by omega
  have HN := hide hn1
  clear hs hV hn hn1
  go_enter_defers Tryz.func10, Tryz.ntmps10
  go_upto_region 3 with (go_at_call 35; (with_reducible refine (FA.out _).mono ?_); rintro y w1 ⟨g, rfl, hg, hrow, hb⟩; have B1 := hide (B0.out.trans (hb.mono B0.out.size)); have X1 := hide (X0.out.below hb X0.out.lt); have ROW := hide hrow; have hg1 := hg; clear hb hrow hg)
  obtain ⟨c0, o1, c, k, hV1, hP1⟩ := tail_run HN.out ROW.out
  have RB := hide (row_block ROW.out)
  have hDl : Hid (∀ wx, Below w1.heap.size w1 wx → Calls Tryz.prog 37 #[.pointer (some ⟨db, 0, none⟩), .agg #[.string x, .slice (some ⟨g, o1, none⟩) k c, .int .i64 0]] wx fun e w' => ∃ o s', Ob s x xs o s' ∧ (Th s x xs = none → e = .returned (.string o)) ∧ (∀ n : Nat, Th s x xs = some n → n ≤ 100 ∧ e = thrown (n : Int) ∧ o = wrongB (n : Int)) ∧ D s' w' ∧ Quiet wx w') := hide fun wx hb =>
    hO s wx x xs _ (hD s w wx HS.out ((Noise.of_below B1.out HV.out.n).trans (Noise.of_below hb (Nat.le_trans HV.out.n B1.out.size)))) hc (HV.out.low ((B1.out.mono HV.out.n).trans (hb.mono (Nat.le_trans HV.out.n B1.out.size))) (Nat.le_trans B1.out.size hb.size)) (hP1.below hb rfl) (by
      have := words_wt (textL l)
      rw [h0] at this
      have hz : (textL l).size = l.length := rfl
      omega)
  have CD := hide (hDl.out w1.drew (Below.refl _ w1).drew)
  have hne : ¬ g = w.heap.size := by simp at hg1; omega
  have hne2 : ¬ w.heap.size = g := fun e => hne e.symm
  clear hP1 hO h0 hl hDl
  go_upto_region 5 with fail
  go_region_held3 (fun wx => wx.cell? ⟨g, 0, none⟩ = some (.string x)) (first | (with_reducible exact c2.out) | go_keep)
    (first
    | (go_at_call 37; (with_reducible refine CD.out.mono ?_); rintro y w2 ⟨o, s', hob, hy, _, hd2, hq2⟩; have OB := hide hob; have DD := hide hd2; have QQ := hide hq2; have hy2 := hy hth; clear hob hd2 hq2 hy; subst hy2; have X2 := hide (QQ.out.has X1.out.drew); have c2 : Hid (w2.cell? ⟨g, 0, none⟩ = some (.string x)) := hide (RB.out.elim fun cur hcur => (QQ.out.cell hcur.drew).trans c0); have c2p := c2.out; have z0 : w2.cell? ⟨w.heap.size, 0, none⟩ = some (.string ⟨#[]⟩) := X2.out.cell 0; have f0 : w2.frozen? ⟨w.heap.size, 0, none⟩ = false := X2.out.free 0))
  go_wp2
  have h11 := HV.out.n
  have _hk11 := lowK_le
  have q2 : Quiet w w2 := ((Quiet.of_below B1.out h11).trans (Quiet.of_below (Below.refl _ w1).drew (Nat.le_trans h11 B1.out.size))).trans QQ.out
  have q3 := q2.set (Nat.le_refl _) h11 (.string o)
  have hs3 := hD s' w2 _ DD.out (Noise.of_set X2.out h11 (.string o))
  have c3 : (w2.setCell ⟨w.heap.size, 0, none⟩ (.string o)).cell? ⟨w.heap.size, 0, none⟩ = some (.string o) := (X2.out.set 0 (.string o)).cell 0
  refine leaves_cons (f := 34) (args := #[.pointer (some ⟨w.heap.size, 0, none⟩)]) (by simp) (by simp [go_sem]) ?_
  refine (catch_none w.heap.size _).mono ?_
  rintro e u' w'' ⟨rfl, rfl, rfl⟩
  generalize w2.setCell ⟨w.heap.size, 0, none⟩ (.string o) = w3 at c3 hs3 q3 ⊢
  have ob := OB.out
  simp [Leaves, settle, results, Tryz.results10, go_sem, c3]
  exact ⟨o, s', ob, rfl, hs3, q3⟩
end Go.Proofs.YtdjpghgnjcmdnaaGreatDoor
