/- Texts of this proof, one behind the other. -/
import Derived.Maps.RangeWalk
import Derived.Sort.KeysCollected
import Derived.Sort.OwnSorted
import Derived.Test.YtjobghphjkeohaaDoorPart9
/- What a vault keeps of its subjects, as plain mathematics: how many keys each ever had, and whether it has the last one; and what maps that say so read as. -/
namespace Go.Proofs.YtjobghphjkeohaaDoor
open Go.RowKit Go.Maps
/-- Of each subject how many keys it ever had, and whether it has the last one. -/
abbrev Kept := List UInt8 → Nat × Bool
def kept0 : Kept := fun _ => (0, false)
/-- A subject has a key: a new one, if it had none. -/
def made (σ : Kept) (s : List UInt8) : Kept := fun l => if l = s then (if (σ s).2 then σ s else ((σ s).1 + 1, true)) else σ l
/-- It has none. -/
def gone (σ : Kept) (s : List UInt8) : Kept := fun l => if l = s then ((σ s).1, false) else σ l
theorem made_held {σ : Kept} {s : List UInt8} (h : (σ s).2 = true) : made σ s = σ := by
  funext l
  unfold made
  rw [if_pos h]
  split
  · rename_i e; rw [e]
  · rfl
theorem gone_none {σ : Kept} {s : List UInt8} (h : (σ s).2 = false) : gone σ s = σ := by
  funext l
  unfold gone
  split
  · rename_i e; rw [e, ← h]
  · rfl
theorem made_few {σ : Kept} {s : List UInt8} {n : Nat} (h : ∀ l, (σ l).1 ≤ n) : ∀ l, (made σ s l).1 ≤ n + 1 := by
  intro l
  unfold made
  have h1 := h s
  have h2 := h l
  split
  · split
    · omega
    · show (σ s).1 + 1 ≤ n + 1; omega
  · omega
theorem gone_few {σ : Kept} {s : List UInt8} {n : Nat} (h : ∀ l, (σ l).1 ≤ n) : ∀ l, (gone σ s l).1 ≤ n := by
  intro l
  unfold gone
  split
  · exact h s
  · exact h l
/-- The document's two maps, and the program's one. -/
def HadIs (D : DataW Unit) (σ : Kept) : Prop := IsMap D ∧ ∀ l, D.atKey (.string l) (.lit (.int .i64 0)) = .lit (.int .i64 ((σ l).1 : Int))
def HasIs (D : DataW Unit) (σ : Kept) : Prop := IsMap D ∧ ∀ l, D.atKey (.string l) (.lit (.bool false)) = .lit (.bool (σ l).2)
/-- What a subject's holding reads as. -/
def holdD (n : Nat) (k : List UInt8) : DataW Unit := .agg [.lit (.int .i64 (n : Int)), .lit (.string k)]
def keyOr (key : List UInt8 → Nat → List UInt8) (σ : Kept) (l : List UInt8) : List UInt8 := if (σ l).2 then key l (σ l).1 else []
def HeldIs (key : List UInt8 → Nat → List UInt8) (D : DataW Unit) (σ : Kept) : Prop := IsMap D ∧ ∀ l, D.atKey (.string l) (holdD 0 []) = holdD (σ l).1 (keyOr key σ l)
theorem strKey (s : List UInt8) : WideAt.IsKeyLit (.string s) := trivial
theorem strNe {l s : List UInt8} (h : l ≠ s) : Lit.string l ≠ .string s := fun e => h (by cases e; rfl)
theorem atKey_put {D : DataW Unit} (hD : IsMap D) (s l : List UInt8) (d z : DataW Unit) : (D.put (.string s) d).atKey (.string l) z = if l = s then d else D.atKey (.string l) z := by
  by_cases h : l = s
  · rw [if_pos h, h, atKey_put_same hD (strKey s)]
  · rw [if_neg h, atKey_put_other (strNe h)]
theorem hadIs0 : HadIs (.map []) kept0 := ⟨isMap_empty, fun _ => rfl⟩
theorem hasIs0 : HasIs (.map []) kept0 := ⟨isMap_empty, fun _ => rfl⟩
theorem heldIs0 (key : List UInt8 → Nat → List UInt8) : HeldIs key (.map []) kept0 := ⟨isMap_empty, fun _ => rfl⟩
theorem HadIs.made {D : DataW Unit} {σ : Kept} (h : HadIs D σ) {s : List UInt8} (hs : (σ s).2 = false) : HadIs (D.put (.string s) (.lit (.int .i64 ((σ s).1 + 1 : Int)))) (made σ s) := by
  refine ⟨h.1.put _ _, fun l => ?_⟩
  rw [atKey_put h.1]
  unfold YtjobghphjkeohaaDoor.made
  split
  · rw [if_neg (by rw [hs]; decide)]; rfl
  · exact h.2 l
theorem HasIs.made {D : DataW Unit} {σ : Kept} (h : HasIs D σ) {s : List UInt8} (hs : (σ s).2 = false) : HasIs (D.put (.string s) (.lit (.bool true))) (made σ s) := by
  refine ⟨h.1.put _ _, fun l => ?_⟩
  rw [atKey_put h.1]
  unfold YtjobghphjkeohaaDoor.made
  split
  · rw [if_neg (by rw [hs]; decide)]
  · exact h.2 l
theorem HeldIs.made {key : List UInt8 → Nat → List UInt8} {D : DataW Unit} {σ : Kept} (h : HeldIs key D σ) {s : List UInt8} (hs : (σ s).2 = false) : HeldIs key (D.put (.string s) (holdD ((σ s).1 + 1) (key s ((σ s).1 + 1)))) (made σ s) := by
  refine ⟨h.1.put _ _, fun l => ?_⟩
  rw [atKey_put h.1]
  have hm : YtjobghphjkeohaaDoor.made σ s l = if l = s then ((σ s).1 + 1, true) else σ l := by
    unfold YtjobghphjkeohaaDoor.made
    rw [hs]
    rfl
  unfold keyOr
  rw [hm]
  split
  · rename_i e; rw [e]; rfl
  · exact h.2 l
theorem HadIs.gone {D : DataW Unit} {σ : Kept} (h : HadIs D σ) (s : List UInt8) : HadIs D (gone σ s) := by
  refine ⟨h.1, fun l => ?_⟩
  rw [h.2 l]
  unfold YtjobghphjkeohaaDoor.gone
  split
  · rename_i e; rw [e]
  · rfl
theorem HasIs.gone {D : DataW Unit} {σ : Kept} (h : HasIs D σ) (s : List UInt8) : HasIs (D.put (.string s) (.lit (.bool false))) (gone σ s) := by
  refine ⟨h.1.put _ _, fun l => ?_⟩
  rw [atKey_put h.1]
  unfold YtjobghphjkeohaaDoor.gone
  split
  · rfl
  · exact h.2 l
theorem HeldIs.gone {key : List UInt8 → Nat → List UInt8} {D : DataW Unit} {σ : Kept} (h : HeldIs key D σ) (s : List UInt8) : HeldIs key (D.put (.string s) (holdD (σ s).1 [])) (gone σ s) := by
  refine ⟨h.1.put _ _, fun l => ?_⟩
  rw [atKey_put h.1]
  unfold keyOr YtjobghphjkeohaaDoor.gone
  split
  · rfl
  · exact h.2 l
theorem HasIs.has {D : DataW Unit} {σ : Kept} (h : HasIs D σ) (l : List UInt8) (hl : (σ l).2 = true) : Maps.has D (.string l) = true := by
  cases hh : Maps.has D (.string l)
  · have h1 := h.2 l
    rw [atKey_of_not_has hh, hl] at h1
    simp at h1
  · rfl
theorem HeldIs.has {key : List UInt8 → Nat → List UInt8} {D : DataW Unit} {σ : Kept} (h : HeldIs key D σ) (hk : ∀ l n, key l n ≠ []) (l : List UInt8) (hl : (σ l).2 = true) : Maps.has D (.string l) = true := by
  cases hh : Maps.has D (.string l)
  · have h1 := h.2 l
    rw [atKey_of_not_has hh] at h1
    simp only [holdD, keyOr, hl, if_true, DataW.agg.injEq, List.cons.injEq, DataW.lit.injEq, Lit.string.injEq, and_true] at h1
    exact absurd h1.2.symm (hk _ _)
  · rfl
/-- Of those that have a key: which ones a loop has met, in whatever order. -/
def Gathered (σ : Kept) (left : Lit → Bool) (ss : List (List UInt8)) : Prop := ss.Nodup ∧ ∀ x, x ∈ ss ↔ ((σ x).2 = true ∧ left (.string x) = false)
theorem Gathered.start {σ : Kept} {D : DataW Unit} (h : ∀ x, (σ x).2 = true → Maps.has D (.string x) = true) : Gathered σ (Maps.has D) [] :=
  ⟨List.nodup_nil, fun x => ⟨fun hx => by simp at hx, fun ⟨h1, h2⟩ => by rw [h x h1] at h2; cases h2⟩⟩
theorem Gathered.step_in {σ : Kept} {left : Lit → Bool} {ss : List (List UInt8)} (h : Gathered σ left ss) {x : List UInt8} (hlk : left (.string x) = true) (hx : (σ x).2 = true) : Gathered σ (fun z => left z && !z.sameKey (.string x)) (ss ++ [x]) := by
  have hnew : x ∉ ss := fun hm => by have := ((h.2 x).1 hm).2; rw [hlk] at this; cases this
  refine ⟨List.nodup_append.2 ⟨h.1, by simp, fun a ha b hb => by simp at hb; subst hb; exact fun e => hnew (e ▸ ha)⟩, fun y => ?_⟩
  by_cases hy : y = x
  · subst hy; simp [hx, Lit.sameKey]
  · simp [h.2 y, hy, Lit.sameKey]
theorem Gathered.step_out {σ : Kept} {left : Lit → Bool} {ss : List (List UInt8)} (h : Gathered σ left ss) {x : List UInt8} (hx : (σ x).2 = false) : Gathered σ (fun z => left z && !z.sameKey (.string x)) ss := by
  refine ⟨h.1, fun y => ?_⟩
  by_cases hy : y = x
  · subst hy; simp [h.2 y, hx]
  · simp [h.2 y, hy, Lit.sameKey]
/-- All that have a key, in order. -/
def InOrder (σ : Kept) (ts : List (List UInt8)) : Prop := ∃ ss : List (List UInt8), ss.Nodup ∧ (∀ x, x ∈ ss ↔ (σ x).2 = true) ∧ ts = ss.mergeSort (fun x y => decide (x ≤ y))
theorem Gathered.inOrder {σ : Kept} {left : Lit → Bool} {ss : List (List UInt8)} (h : Gathered σ left ss) (hl : ∀ kl, left kl = false) : InOrder σ (ss.mergeSort (fun x y => decide (x ≤ y))) :=
  ⟨ss, h.1, fun x => by rw [h.2 x, hl]; simp, rfl⟩
theorem InOrder.eq {σ : Kept} {ts us : List (List UInt8)} (h : InOrder σ ts) (h' : InOrder σ us) : ts = us := by
  obtain ⟨ss, n1, m1, rfl⟩ := h
  obtain ⟨ss', n2, m2, rfl⟩ := h'
  exact mergeSort_of_perm ((List.perm_ext_iff_of_nodup n1 n2).2 fun x => by rw [m1, m2])
theorem inOrder0 : InOrder kept0 [] := ⟨[], List.nodup_nil, fun x => by simp [kept0], by simp⟩
/-- How a subject's holding reads: a number and a text, side by side. -/
def holdElem (v : Value) : Option (DataW Unit × List MemPlace) :=
  match v with
  | .agg cs => match cs.toList with
    | [.int .i64 n, .string s] => some (.agg [.lit (.int .i64 n), .lit (.string s.data.toList)], [])
    | _ => none
  | _ => none
theorem holdElem_mk (n : Int) (s : ByteArray) : holdElem (.agg #[.int .i64 n, .string s]) = some (.agg [.lit (.int .i64 n), .lit (.string s.data.toList)], []) := rfl
theorem holdElem_inv {v : Value} {y : DataW Unit × List MemPlace} (h : holdElem v = some y) : ∃ n s, v = .agg #[.int .i64 n, .string s] ∧ y = (.agg [.lit (.int .i64 n), .lit (.string s.data.toList)], []) := by
  unfold holdElem at h
  split at h
  · rename_i cs
    split at h
    · rename_i n s hcs
      cases h
      exact ⟨n, s, by rw [← Array.toArray_toList (xs := cs), hcs], rfl⟩
    · cases h
  · cases h
theorem holdElem_is {v : Value} {n : Nat} {k : List UInt8} {ps : List MemPlace} (h : holdElem v = some (holdD n k, ps)) : v = .agg #[.int .i64 n, .string ⟨k.toArray⟩] := by
  obtain ⟨a, s, rfl, e⟩ := holdElem_inv h
  simp only [holdD, Prod.mk.injEq, DataW.agg.injEq, List.cons.injEq, DataW.lit.injEq, Lit.int.injEq, Lit.string.injEq, and_true, true_and] at e
  rw [← e.1.1, e.1.2]
theorem boolElem_is {P : Program} {e : TypeId} (he : P.underlying e = some .bool) {v : Value} {x : Bool} {ps : List MemPlace} (h : plainElem (H := Unit) P e v = some (.lit (.bool x), ps)) : v = .bool x := by
  unfold plainElem at h
  rw [he] at h
  cases v <;> simp at h
  rw [h.1]
theorem boolElem_inv {P : Program} {e : TypeId} (he : P.underlying e = some .bool) {v : Value} {y : DataW Unit × List MemPlace} (h : plainElem P e v = some y) : ∃ x, v = .bool x ∧ y = (.lit (.bool x), []) := by
  unfold plainElem at h
  rw [he] at h
  cases v <;> simp at h
  exact ⟨_, rfl, h.symm⟩
theorem intElem_is {P : Program} {e : TypeId} (he : P.underlying e = some (.int .i64)) {v : Value} {x : Int} {ps : List MemPlace} (h : plainElem (H := Unit) P e v = some (.lit (.int .i64 x), ps)) : v = .int .i64 x := by
  obtain ⟨a, rfl, e1, _⟩ := plainElem_int_inv he h
  cases e1
  rfl
/-- A look-up in a map, at the operation, where what is there is known. -/
theorem lookup_at {P : Program} (w : World) {ops : Array Oper} {rest : List Oper} {o : Oper} {a : Act} {Q : Exit → Act → World → Prop}
    (hg : o.guard = none) (m x : Operand) (t : TypeId) (hop : o.op = Op.lookup t m x false)
    (k e : TypeId) (K : Keyed P k) (ht : P.underlying t = some (.map k e)) (R : Value → Option (DataW Unit × List MemPlace)) {z : Value} (hz : (zeroValue e).run P w = .ok z w) (zd : DataW Unit) (zp : List MemPlace) (hzd : R z = some (zd, zp)) (b n : Nat) (D : DataW Unit)
    (hm : a.eval m = .map (some b)) (hown : w.ownsMap P k R b n D) (key : Value) (kl : Lit) (hx : a.eval x = key) (hkey : keyOf P k key = some kl)
    (v : Value) (hv : ∀ u ps, R u = some (D.atKey kl zd, ps) → u = v) (hK : wpList P ops Q rest (a.put o.dst v) w) :
    wpList P ops Q (o :: rest) a w := by
  refine wpList_plain hg fun K' hK' => ?_
  obtain ⟨u, ps, hrun, hu⟩ := hown.lookup K ht hz hzd hkey
  obtain rfl := hv u ps hu
  unfold Oper.wp
  simp [execOp, hop, hm, hx, hrun, Result.andThen]
  exact hK' _ _ hK
end Go.Proofs.YtjobghphjkeohaaDoor

/- What a call may turn in memory; and two vaults as they lie there: the document's and the program's. -/
namespace Go.Proofs.YtjobghphjkeohaaDoor
open Go.RowKit Go.Maps
/-- Of what was there nothing has turned but the blocks of a list. -/
structure Stirred (L : List Nat) (w w' : World) : Prop where
  os : w'.os = w.os
  tape : w'.tape = w.tape
  output : w'.output = w.output
  size : w.heap.size ≤ w'.heap.size
  block : ∀ k, k < w.heap.size → k ∉ L → w'.heap[k]? = w.heap[k]?
theorem Stirred.refl (L : List Nat) (w : World) : Stirred L w w := ⟨rfl, rfl, rfl, Nat.le_refl _, fun _ _ _ => rfl⟩
theorem Stirred.andThen {L M : List Nat} {a b c : World} (h : Stirred L a b) (k : Stirred M b c) (hM : ∀ j ∈ M, j ∈ L ∨ a.heap.size ≤ j) : Stirred L a c :=
  ⟨k.os.trans h.os, k.tape.trans h.tape, k.output.trans h.output, Nat.le_trans h.size k.size, fun i hi hn =>
    (k.block i (Nat.lt_of_lt_of_le hi h.size) (fun hm => by
      rcases hM i hm with h1 | h1
      · exact hn h1
      · omega)).trans (h.block i hi hn)⟩
theorem Stirred.mono {L M : List Nat} {a b : World} (h : Stirred L a b) (hM : ∀ j ∈ L, j ∈ M) : Stirred M a b :=
  ⟨h.os, h.tape, h.output, h.size, fun k hk hn => h.block k hk fun hl => hn (hM k hl)⟩
theorem Stirred.of_below {w w' : World} (h : Below w.heap.size w w') (L : List Nat) : Stirred L w w' := ⟨h.os, h.tape, h.output, h.size, fun k hk _ => h.block k hk⟩
theorem Stirred.of_grown {w w' : World} {b : Nat} (h : w.grownBy w' (some b)) : Stirred [b] w w' := ⟨h.os, h.tape, h.output, h.size, fun k hk hn => h.block k hk (fun e => hn (by cases e; simp))⟩
theorem Stirred.of_turned {w w' : World} {b : Nat} (h : w.mapTurned w' b) : Stirred [b] w w' := Stirred.of_grown h.grown
theorem Stirred.setCell (w : World) (a : Addr) (v : Value) : Stirred [a.block] w (w.setCell a v) := ⟨rfl, rfl, rfl, by simp [World.setCell], fun k _ hn => Below.heap_setCell _ _ _ _ (by simpa using hn)⟩
theorem Stirred.then_below {L : List Nat} {a b c : World} (h : Stirred L a b) (k : Below b.heap.size b c) : Stirred L a c := h.andThen (Stirred.of_below k []) (fun j hj => by simp at hj)
theorem Stirred.below {L : List Nat} {w w' : World} {B : Nat} (h : Stirred L w w') (hB : B ≤ w.heap.size) (hL : ∀ k ∈ L, B ≤ k) : Below B w w' :=
  ⟨h.os, h.tape, h.output, h.size, fun k hk => h.block k (by omega) (fun hm => by have := hL k hm; omega)⟩
theorem Stirred.cell {L : List Nat} {w w' : World} (h : Stirred L w w') {p : Addr} (hp : p.block < w.heap.size) (hn : p.block ∉ L) : w'.cell? p = w.cell? p := World.cell?_of_block (w := w) (h.block p.block hp hn)
theorem ownsMap_turned {P : Program} {k : TypeId} {R : Value → Option (DataW Unit × List MemPlace)} {w w' : World} {b n : Nat} {D : DataW Unit} {L : List Nat} (h : w.ownsMap P k R b n D) (t : Stirred L w w') (hb : b ∉ L) : w'.ownsMap P k R b n D := by
  have hlt := h.lt
  obtain ⟨es, clock, hh, r⟩ := h
  exact ⟨es, clock, (t.block b hlt hb).trans hh, r⟩
theorem HasR.turned {w w' : World} {b : Nat} {t : TypeId} {cs : Array Value} {L : List Nat} (h : HasR w b t cs) (k : Stirred L w w') (hb : b ∉ L) : HasR w' b t cs := by
  unfold HasR
  rw [k.block b h.lt hb]
  exact h
end Go.Proofs.YtjobghphjkeohaaDoor

/- A block of five cells, all written. -/
namespace Go.Proofs.YtjobghphjkeohaaDoor
open Go.RowKit
theorem HasR.five {w : World} {b : Nat} {t : TypeId} {a0 a1 a2 a3 a4 : Value} (h : HasR w b t #[a0, a1, a2, a3, a4]) (v0 v1 v2 v3 v4 : Value) : HasR (((((w.setCell ⟨b, 0, none⟩ v0).setCell ⟨b, 1, none⟩ v1).setCell ⟨b, 2, none⟩ v2).setCell ⟨b, 3, none⟩ v3).setCell ⟨b, 4, none⟩ v4) b t #[v0, v1, v2, v3, v4] := by
  have := ((((h.set 0 v0).set 1 v1).set 2 v2).set 3 v3).set 4 v4
  exact this
theorem stir5 (w : World) (b : Nat) (v0 v1 v2 v3 v4 : Value) : Stirred [b] w (((((w.setCell ⟨b, 0, none⟩ v0).setCell ⟨b, 1, none⟩ v1).setCell ⟨b, 2, none⟩ v2).setCell ⟨b, 3, none⟩ v3).setCell ⟨b, 4, none⟩ v4) :=
  ((((Stirred.setCell w ⟨b, 0, none⟩ v0).andThen (Stirred.setCell _ ⟨b, 1, none⟩ v1) (fun _ hj => .inl hj)).andThen (Stirred.setCell _ ⟨b, 2, none⟩ v2) (fun _ hj => .inl hj)).andThen (Stirred.setCell _ ⟨b, 3, none⟩ v3) (fun _ hj => .inl hj)).andThen (Stirred.setCell _ ⟨b, 4, none⟩ v4) (fun _ hj => .inl hj)
end Go.Proofs.YtjobghphjkeohaaDoor
