/- Texts of this proof, one behind the other. -/
import Derived.Maps.RangeWalk
import Derived.Sort.KeysCollected
import Derived.Sort.OwnSorted
import Derived.Laws.BitsAllLaws
import Derived.Laws.Entries
import Derived.WalkKit
import Derived.WalkSpells
import Derived.WalkLawsBesides
import Derived.Laws.IdiomCopy
import Derived.Deep.MidRow
/- What a vault keeps of its subjects, as plain mathematics: how many keys each ever had, and whether it has the last one; and what maps that say so read as. -/
namespace Go.Proofs.YtkbaalenbpgheaaGreatDoor
open Go.RowKit Go.Maps
/-- Of each subject how many keys it ever had, and whether it has the last one. -/
abbrev Kept := List UInt8 → Nat × Bool
def kept0 : Kept := fun _ => (0, false)
/-- A subject has a key: a new one, if it had none. -/
def made (σ : Kept) (s : List UInt8) : Kept := fun l => if l = s then (if (σ s).2 then σ s else ((σ s).1 + 1, true)) else σ l
/-- It has none. -/
def gone (σ : Kept) (s : List UInt8) : Kept := fun l => if l = s then ((σ s).1, false) else σ l
theorem made_held {σ : Kept} {s : List UInt8} (h : (σ s).2 = true) : made σ s = σ := by
  funext l
  unfold made
  rw [if_pos h]
  split
  · rename_i e; rw [e]
  · rfl
theorem gone_none {σ : Kept} {s : List UInt8} (h : (σ s).2 = false) : gone σ s = σ := by
  funext l
  unfold gone
  split
  · rename_i e; rw [e, ← h]
  · rfl
theorem made_few {σ : Kept} {s : List UInt8} {n : Nat} (h : ∀ l, (σ l).1 ≤ n) : ∀ l, (made σ s l).1 ≤ n + 1 := by
  intro l
  unfold made
  have h1 := h s
  have h2 := h l
  split
  · split
    · omega
    · show (σ s).1 + 1 ≤ n + 1; omega
  · omega
theorem gone_few {σ : Kept} {s : List UInt8} {n : Nat} (h : ∀ l, (σ l).1 ≤ n) : ∀ l, (gone σ s l).1 ≤ n := by
  intro l
  unfold gone
  split
  · exact h s
  · exact h l
/-- The document's two maps, and the program's one. -/
def HadIs (D : DataW Unit) (σ : Kept) : Prop := IsMap D ∧ ∀ l, D.atKey (.string l) (.lit (.int .i64 0)) = .lit (.int .i64 ((σ l).1 : Int))
def HasIs (D : DataW Unit) (σ : Kept) : Prop := IsMap D ∧ ∀ l, D.atKey (.string l) (.lit (.bool false)) = .lit (.bool (σ l).2)
/-- What a subject's holding reads as. -/
def holdD (n : Nat) (k : List UInt8) : DataW Unit := .agg [.lit (.int .i64 (n : Int)), .lit (.string k)]
def keyOr (key : List UInt8 → Nat → List UInt8) (σ : Kept) (l : List UInt8) : List UInt8 := if (σ l).2 then key l (σ l).1 else []
def HeldIs (key : List UInt8 → Nat → List UInt8) (D : DataW Unit) (σ : Kept) : Prop := IsMap D ∧ ∀ l, D.atKey (.string l) (holdD 0 []) = holdD (σ l).1 (keyOr key σ l)
theorem strKey (s : List UInt8) : WideAt.IsKeyLit (.string s) := trivial
theorem strNe {l s : List UInt8} (h : l ≠ s) : Lit.string l ≠ .string s := fun e => h (by cases e; rfl)
theorem atKey_put {D : DataW Unit} (hD : IsMap D) (s l : List UInt8) (d z : DataW Unit) : (D.put (.string s) d).atKey (.string l) z = if l = s then d else D.atKey (.string l) z := by
  by_cases h : l = s
  · rw [if_pos h, h, atKey_put_same hD (strKey s)]
  · rw [if_neg h, atKey_put_other (strNe h)]
theorem hadIs0 : HadIs (.map []) kept0 := ⟨isMap_empty, fun _ => rfl⟩
theorem hasIs0 : HasIs (.map []) kept0 := ⟨isMap_empty, fun _ => rfl⟩
theorem heldIs0 (key : List UInt8 → Nat → List UInt8) : HeldIs key (.map []) kept0 := ⟨isMap_empty, fun _ => rfl⟩
theorem HadIs.made {D : DataW Unit} {σ : Kept} (h : HadIs D σ) {s : List UInt8} (hs : (σ s).2 = false) : HadIs (D.put (.string s) (.lit (.int .i64 ((σ s).1 + 1 : Int)))) (made σ s) := by
  refine ⟨h.1.put _ _, fun l => ?_⟩
  rw [atKey_put h.1]
  unfold YtkbaalenbpgheaaGreatDoor.made
  split
  · rw [if_neg (by rw [hs]; decide)]; rfl
  · exact h.2 l
theorem HasIs.made {D : DataW Unit} {σ : Kept} (h : HasIs D σ) {s : List UInt8} (hs : (σ s).2 = false) : HasIs (D.put (.string s) (.lit (.bool true))) (made σ s) := by
  refine ⟨h.1.put _ _, fun l => ?_⟩
  rw [atKey_put h.1]
  unfold YtkbaalenbpgheaaGreatDoor.made
  split
  · rw [if_neg (by rw [hs]; decide)]
  · exact h.2 l
theorem HeldIs.made {key : List UInt8 → Nat → List UInt8} {D : DataW Unit} {σ : Kept} (h : HeldIs key D σ) {s : List UInt8} (hs : (σ s).2 = false) : HeldIs key (D.put (.string s) (holdD ((σ s).1 + 1) (key s ((σ s).1 + 1)))) (made σ s) := by
  refine ⟨h.1.put _ _, fun l => ?_⟩
  rw [atKey_put h.1]
  have hm : YtkbaalenbpgheaaGreatDoor.made σ s l = if l = s then ((σ s).1 + 1, true) else σ l := by
    unfold YtkbaalenbpgheaaGreatDoor.made
    rw [hs]
    rfl
  unfold keyOr
  rw [hm]
  split
  · rename_i e; rw [e]; rfl
  · exact h.2 l
theorem HadIs.gone {D : DataW Unit} {σ : Kept} (h : HadIs D σ) (s : List UInt8) : HadIs D (gone σ s) := by
  refine ⟨h.1, fun l => ?_⟩
  rw [h.2 l]
  unfold YtkbaalenbpgheaaGreatDoor.gone
  split
  · rename_i e; rw [e]
  · rfl
theorem HasIs.gone {D : DataW Unit} {σ : Kept} (h : HasIs D σ) (s : List UInt8) : HasIs (D.put (.string s) (.lit (.bool false))) (gone σ s) := by
  refine ⟨h.1.put _ _, fun l => ?_⟩
  rw [atKey_put h.1]
  unfold YtkbaalenbpgheaaGreatDoor.gone
  split
  · rfl
  · exact h.2 l
theorem HeldIs.gone {key : List UInt8 → Nat → List UInt8} {D : DataW Unit} {σ : Kept} (h : HeldIs key D σ) (s : List UInt8) : HeldIs key (D.put (.string s) (holdD (σ s).1 [])) (gone σ s) := by
  refine ⟨h.1.put _ _, fun l => ?_⟩
  rw [atKey_put h.1]
  unfold keyOr YtkbaalenbpgheaaGreatDoor.gone
  split
  · rfl
  · exact h.2 l
theorem HasIs.has {D : DataW Unit} {σ : Kept} (h : HasIs D σ) (l : List UInt8) (hl : (σ l).2 = true) : Maps.has D (.string l) = true := by
  cases hh : Maps.has D (.string l)
  · have h1 := h.2 l
    rw [atKey_of_not_has hh, hl] at h1
    simp at h1
  · rfl
theorem HeldIs.has {key : List UInt8 → Nat → List UInt8} {D : DataW Unit} {σ : Kept} (h : HeldIs key D σ) (hk : ∀ l n, key l n ≠ []) (l : List UInt8) (hl : (σ l).2 = true) : Maps.has D (.string l) = true := by
  cases hh : Maps.has D (.string l)
  · have h1 := h.2 l
    rw [atKey_of_not_has hh] at h1
    simp only [holdD, keyOr, hl, if_true, DataW.agg.injEq, List.cons.injEq, DataW.lit.injEq, Lit.string.injEq, and_true] at h1
    exact absurd h1.2.symm (hk _ _)
  · rfl
/-- Of those that have a key: which ones a loop has met, in whatever order. -/
def Gathered (σ : Kept) (left : Lit → Bool) (ss : List (List UInt8)) : Prop := ss.Nodup ∧ ∀ x, x ∈ ss ↔ ((σ x).2 = true ∧ left (.string x) = false)
theorem Gathered.start {σ : Kept} {D : DataW Unit} (h : ∀ x, (σ x).2 = true → Maps.has D (.string x) = true) : Gathered σ (Maps.has D) [] :=
  ⟨List.nodup_nil, fun x => ⟨fun hx => by simp at hx, fun ⟨h1, h2⟩ => by rw [h x h1] at h2; cases h2⟩⟩
theorem Gathered.step_in {σ : Kept} {left : Lit → Bool} {ss : List (List UInt8)} (h : Gathered σ left ss) {x : List UInt8} (hlk : left (.string x) = true) (hx : (σ x).2 = true) : Gathered σ (fun z => left z && !z.sameKey (.string x)) (ss ++ [x]) := by
  have hnew : x ∉ ss := fun hm => by have := ((h.2 x).1 hm).2; rw [hlk] at this; cases this
  refine ⟨List.nodup_append.2 ⟨h.1, by simp, fun a ha b hb => by simp at hb; subst hb; exact fun e => hnew (e ▸ ha)⟩, fun y => ?_⟩
  by_cases hy : y = x
  · subst hy; simp [hx, Lit.sameKey]
  · simp [h.2 y, hy, Lit.sameKey]
theorem Gathered.step_out {σ : Kept} {left : Lit → Bool} {ss : List (List UInt8)} (h : Gathered σ left ss) {x : List UInt8} (hx : (σ x).2 = false) : Gathered σ (fun z => left z && !z.sameKey (.string x)) ss := by
  refine ⟨h.1, fun y => ?_⟩
  by_cases hy : y = x
  · subst hy; simp [h.2 y, hx]
  · simp [h.2 y, hy, Lit.sameKey]
/-- All that have a key, in order. -/
def InOrder (σ : Kept) (ts : List (List UInt8)) : Prop := ∃ ss : List (List UInt8), ss.Nodup ∧ (∀ x, x ∈ ss ↔ (σ x).2 = true) ∧ ts = ss.mergeSort (fun x y => decide (x ≤ y))
theorem Gathered.inOrder {σ : Kept} {left : Lit → Bool} {ss : List (List UInt8)} (h : Gathered σ left ss) (hl : ∀ kl, left kl = false) : InOrder σ (ss.mergeSort (fun x y => decide (x ≤ y))) :=
  ⟨ss, h.1, fun x => by rw [h.2 x, hl]; simp, rfl⟩
theorem InOrder.eq {σ : Kept} {ts us : List (List UInt8)} (h : InOrder σ ts) (h' : InOrder σ us) : ts = us := by
  obtain ⟨ss, n1, m1, rfl⟩ := h
  obtain ⟨ss', n2, m2, rfl⟩ := h'
  exact mergeSort_of_perm ((List.perm_ext_iff_of_nodup n1 n2).2 fun x => by rw [m1, m2])
theorem inOrder0 : InOrder kept0 [] := ⟨[], List.nodup_nil, fun x => by simp [kept0], by simp⟩
/-- How a subject's holding reads: a number and a text, side by side. -/
def holdElem (v : Value) : Option (DataW Unit × List MemPlace) :=
  match v with
  | .agg cs => match cs.toList with
    | [.int .i64 n, .string s] => some (.agg [.lit (.int .i64 n), .lit (.string s.data.toList)], [])
    | _ => none
  | _ => none
theorem holdElem_mk (n : Int) (s : ByteArray) : holdElem (.agg #[.int .i64 n, .string s]) = some (.agg [.lit (.int .i64 n), .lit (.string s.data.toList)], []) := rfl
theorem holdElem_inv {v : Value} {y : DataW Unit × List MemPlace} (h : holdElem v = some y) : ∃ n s, v = .agg #[.int .i64 n, .string s] ∧ y = (.agg [.lit (.int .i64 n), .lit (.string s.data.toList)], []) := by
  unfold holdElem at h
  split at h
  · rename_i cs
    split at h
    · rename_i n s hcs
      cases h
      exact ⟨n, s, by rw [← Array.toArray_toList (xs := cs), hcs], rfl⟩
    · cases h
  · cases h
theorem holdElem_is {v : Value} {n : Nat} {k : List UInt8} {ps : List MemPlace} (h : holdElem v = some (holdD n k, ps)) : v = .agg #[.int .i64 n, .string ⟨k.toArray⟩] := by
  obtain ⟨a, s, rfl, e⟩ := holdElem_inv h
  simp only [holdD, Prod.mk.injEq, DataW.agg.injEq, List.cons.injEq, DataW.lit.injEq, Lit.int.injEq, Lit.string.injEq, and_true, true_and] at e
  rw [← e.1.1, e.1.2]
theorem boolElem_is {P : Program} {e : TypeId} (he : P.underlying e = some .bool) {v : Value} {x : Bool} {ps : List MemPlace} (h : plainElem (H := Unit) P e v = some (.lit (.bool x), ps)) : v = .bool x := by
  unfold plainElem at h
  rw [he] at h
  cases v <;> simp at h
  rw [h.1]
theorem boolElem_inv {P : Program} {e : TypeId} (he : P.underlying e = some .bool) {v : Value} {y : DataW Unit × List MemPlace} (h : plainElem P e v = some y) : ∃ x, v = .bool x ∧ y = (.lit (.bool x), []) := by
  unfold plainElem at h
  rw [he] at h
  cases v <;> simp at h
  exact ⟨_, rfl, h.symm⟩
theorem intElem_is {P : Program} {e : TypeId} (he : P.underlying e = some (.int .i64)) {v : Value} {x : Int} {ps : List MemPlace} (h : plainElem (H := Unit) P e v = some (.lit (.int .i64 x), ps)) : v = .int .i64 x := by
  obtain ⟨a, rfl, e1, _⟩ := plainElem_int_inv he h
  cases e1
  rfl
/-- A look-up in a map, at the operation, where what is there is known. -/
theorem lookup_at {P : Program} (w : World) {ops : Array Oper} {rest : List Oper} {o : Oper} {a : Act} {Q : Exit → Act → World → Prop}
    (hg : o.guard = none) (m x : Operand) (t : TypeId) (hop : o.op = Op.lookup t m x false)
    (k e : TypeId) (K : Keyed P k) (ht : P.underlying t = some (.map k e)) (R : Value → Option (DataW Unit × List MemPlace)) {z : Value} (hz : (zeroValue e).run P w = .ok z w) (zd : DataW Unit) (zp : List MemPlace) (hzd : R z = some (zd, zp)) (b n : Nat) (D : DataW Unit)
    (hm : a.eval m = .map (some b)) (hown : w.ownsMap P k R b n D) (key : Value) (kl : Lit) (hx : a.eval x = key) (hkey : keyOf P k key = some kl)
    (v : Value) (hv : ∀ u ps, R u = some (D.atKey kl zd, ps) → u = v) (hK : wpList P ops Q rest (a.put o.dst v) w) :
    wpList P ops Q (o :: rest) a w := by
  refine wpList_plain hg fun K' hK' => ?_
  obtain ⟨u, ps, hrun, hu⟩ := hown.lookup K ht hz hzd hkey
  obtain rfl := hv u ps hu
  unfold Oper.wp
  simp [execOp, hop, hm, hx, hrun, Result.andThen]
  exact hK' _ _ hK
end Go.Proofs.YtkbaalenbpgheaaGreatDoor

/- Words of 32 bits as the walks spell them: a word is 'N x' for x a bit vector; what the program's operations on words come to. -/
namespace Go.Proofs.YtkbaalenbpgheaaGreatDoor
open Go

/-- The number of a word. -/
def N (x : BitVec 32) : Int := (x.toNat : Int)

theorem N_nonneg (x : BitVec 32) : 0 ≤ N x := by unfold N; omega
theorem N_lt (x : BitVec 32) : N x < 4294967296 := by unfold N; have := x.isLt; omega
theorem ofInt_N (x : BitVec 32) : BitVec.ofInt 32 (N x) = x := by
  unfold N; rw [BitVec.ofInt_natCast]; simp
theorem wrapN (n : Int) : IntKind.u32.wrap n = N (BitVec.ofInt 32 n) := by
  rw [IntKind.wrap_u32']; unfold N; rw [BitVec.toNat_ofInt]; omega
theorem N_xor (x y : BitVec 32) : bits .xor .u32 (N x) (N y) = N (x ^^^ y) := by
  show IntKind.u32.wrap ((BitVec.ofInt 32 (N x) ^^^ BitVec.ofInt 32 (N y)).toNat : Int) = _
  rw [ofInt_N, ofInt_N, wrapN]; exact congrArg N (ofInt_N _)
theorem N_and (x y : BitVec 32) : bits .and .u32 (N x) (N y) = N (x &&& y) := by
  show IntKind.u32.wrap ((BitVec.ofInt 32 (N x) &&& BitVec.ofInt 32 (N y)).toNat : Int) = _
  rw [ofInt_N, ofInt_N, wrapN]; exact congrArg N (ofInt_N _)
theorem N_or (x y : BitVec 32) : bits .or .u32 (N x) (N y) = N (x ||| y) := by
  show IntKind.u32.wrap ((BitVec.ofInt 32 (N x) ||| BitVec.ofInt 32 (N y)).toNat : Int) = _
  rw [ofInt_N, ofInt_N, wrapN]; exact congrArg N (ofInt_N _)
theorem N_add (x y : BitVec 32) : IntKind.u32.wrap (N x + N y) = N (x + y) := by
  rw [wrapN, BitVec.ofInt_add, ofInt_N, ofInt_N]
theorem N_shr (x : BitVec 32) (k : Nat) : N x / 2 ^ k = N (x >>> k) := by
  unfold N; rw [BitVec.toNat_ushiftRight, Nat.shiftRight_eq_div_pow]; simp
theorem N_shl (x : BitVec 32) (k : Nat) : IntKind.u32.wrap (N x * 2 ^ k) = N (x <<< k) := by
  rw [IntKind.wrap_u32']; unfold N; rw [BitVec.toNat_shiftLeft, Nat.shiftLeft_eq]; simp
theorem N_addm (x y : BitVec 32) : (N x + N y) % 4294967296 = N (x + y) := by
  rw [← IntKind.wrap_u32']; exact N_add x y
theorem N_shlm (x : BitVec 32) (k : Nat) : N x * 2 ^ k % 4294967296 = N (x <<< k) := by
  rw [← IntKind.wrap_u32']; exact N_shl x k
theorem xor_ones (x : BitVec 32) : BitVec.allOnes 32 ^^^ x = ~~~x := by
  apply BitVec.eq_of_getLsbD_eq
  intro i hi
  rw [BitVec.getLsbD_xor, BitVec.getLsbD_allOnes, BitVec.getLsbD_not]
  simp [hi]
theorem N_not (x : BitVec 32) : bits .xor .u32 IntKind.u32.max (N x) = N (~~~x) := by
  have e : IntKind.u32.max = N (BitVec.allOnes 32) := by decide +kernel
  rw [e, N_xor, xor_ones]
theorem N_add3 (x y z : BitVec 32) : (N x + N y + N z) % 4294967296 = N (x + y + z) := by
  rw [← N_addm (x + y) z, ← N_addm x y]; omega
theorem N_add4 (x y z t : BitVec 32) : (N x + N y + N z + N t) % 4294967296 = N (x + y + z + t) := by
  rw [← N_addm (x + y + z) t, ← N_add3 x y z]; omega
theorem N_add5 (x y z t u : BitVec 32) : (N x + N y + N z + N t + N u) % 4294967296 = N (x + y + z + t + u) := by
  rw [← N_addm (x + y + z + t) u, ← N_add4 x y z t]; omega
theorem N_add12 (x y z : BitVec 32) : (N x + (N y + N z)) % 4294967296 = N (x + (y + z)) := by
  rw [← N_addm x (y + z), ← N_addm y z]; omega
theorem N_add13 (x y z t : BitVec 32) : (N x + (N y + N z + N t)) % 4294967296 = N (x + (y + z + t)) := by
  rw [← N_addm x (y + z + t), ← N_add3 y z t]; omega
theorem N_zero : N 0 = 0 := rfl
theorem N_inj {x y : BitVec 32} (h : N x = N y) : x = y := by
  have := congrArg (BitVec.ofInt 32) h; rwa [ofInt_N, ofInt_N] at this
theorem N_ofNat (n : Nat) (h : n < 4294967296) : N (BitVec.ofNat 32 n) = (n : Int) := by
  unfold N; rw [BitVec.toNat_ofNat, Nat.mod_eq_of_lt (by omega)]

/-- The i-th of some words; nought beyond them. -/
def wd (l : List (BitVec 32)) (i : Nat) : BitVec 32 := l.getD i 0
theorem wd_set_same (l : List (BitVec 32)) (i : Nat) (x : BitVec 32) (h : i < l.length) : wd (l.set i x) i = x := by simp [wd, h]
theorem wd_set_other (l : List (BitVec 32)) (i j : Nat) (x : BitVec 32) (h : i ≠ j) : wd (l.set i x) j = wd l j := by
  simp [wd, List.getElem?_set_ne h]

/-- A word turned to the right. -/
def rr (x : BitVec 32) (k : Nat) : BitVec 32 := x <<< (32 - k) ||| x >>> k
theorem rr_add (x : BitVec 32) (k : Nat) (_h : k ≤ 32) : x >>> k + x <<< (32 - k) = rr x k := by
  unfold rr
  rw [BitVec.or_comm]
  refine BitVec.add_eq_or_of_and_eq_zero _ _ ?_
  apply BitVec.eq_of_getLsbD_eq
  intro i hi
  simp [BitVec.getLsbD_shiftLeft]
  intro h1 _ h3
  rw [BitVec.getLsbD_of_ge x (k + i) (by omega)] at h1
  exact absurd h1 (by simp)
end Go.Proofs.YtkbaalenbpgheaaGreatDoor

/- A block of memory that holds words: what its cells read as, and what a store, a new block, a draw and a call above leave of it. -/
namespace Go.Proofs.YtkbaalenbpgheaaGreatDoor
open Go Go.RowKit

/-- Words as cells. -/
def rowW (l : List (BitVec 32)) : Array Value := (l.map fun x => Value.int .u32 (N x)).toArray
theorem rowW_size (l : List (BitVec 32)) : (rowW l).size = l.length := by simp [rowW]
theorem rowW_get (l : List (BitVec 32)) (i : Nat) (h : i < l.length) : (rowW l)[i]? = some (.int .u32 (N (wd l i))) := by
  simp [rowW, wd, h]
theorem rowW_set (l : List (BitVec 32)) (i : Nat) (x : BitVec 32) : (rowW l).setIfInBounds i (.int .u32 (N x)) = rowW (l.set i x) := by
  simp [rowW, List.map_set]
/-- Block B holds cells cs. -/
def HasR (w : World) (B : Nat) (t : TypeId) (cs : Array Value) : Prop := w.heap[B]? = some (.cells cs t (0, 0))
theorem HasR.cell {w : World} {B : Nat} {t : TypeId} {cs : Array Value} (h : HasR w B t cs) (i : Nat) : w.cell? ⟨B, i, none⟩ = cs[i]? :=
  cell_of_row w B i cs t (0, 0) h
theorem HasR.free {w : World} {B : Nat} {t : TypeId} {cs : Array Value} (h : HasR w B t cs) (i : Nat) : w.frozen? ⟨B, i, none⟩ = false :=
  frozen_of_row w B i cs t h
theorem HasR.lt {w : World} {B : Nat} {t : TypeId} {cs : Array Value} (h : HasR w B t cs) : B < w.heap.size := lt_of_block h
theorem HasR.set {w : World} {B : Nat} {t : TypeId} {cs : Array Value} (h : HasR w B t cs) (i : Nat) (v : Value) : HasR (w.setCell ⟨B, i, none⟩ v) B t (cs.setIfInBounds i v) := by
  unfold HasR at *
  have := heap_setCell_same w B i cs t v h
  simpa using this
theorem HasR.other {w : World} {B : Nat} {t : TypeId} {cs : Array Value} (h : HasR w B t cs) (a : Addr) (ha : B ≠ a.block) (v : Value) : HasR (w.setCell a v) B t cs := by
  unfold HasR at *; rw [heap_setCell_other w a B v ha]; exact h
theorem HasR.alloc {w : World} {B : Nat} {t : TypeId} {cs : Array Value} (h : HasR w B t cs) (o : Obj) : HasR (w.alloc o) B t cs := by
  have hl := h.lt
  unfold HasR at *; rw [Below.heap_alloc w o B hl]; exact h
theorem HasR.drew {w : World} {B : Nat} {t : TypeId} {cs : Array Value} (h : HasR w B t cs) : HasR w.drew B t cs := h
theorem HasR.drewN {w : World} {B : Nat} {t : TypeId} {cs : Array Value} (h : HasR w B t cs) (n : Nat) : HasR (w.drewN n) B t cs := h
theorem HasR.new (w : World) (t : TypeId) (cs : Array Value) : HasR (w.alloc (.cells cs t)) w.heap.size t cs := heap_alloc_new w _
theorem HasR.below {w w' : World} {b B : Nat} {t : TypeId} {cs : Array Value} (h : HasR w B t cs) (hb : Below b w w') (hB : B < b) : HasR w' B t cs := by
  unfold HasR at *; rw [hb.block B hB]; exact h

/-- Block B holds the words l. -/
def HasW (w : World) (B : Nat) (t : TypeId) (l : List (BitVec 32)) : Prop := HasR w B t (rowW l)
theorem HasW.cell {w : World} {B : Nat} {t : TypeId} {l : List (BitVec 32)} (h : HasW w B t l) (i : Nat) (hi : i < l.length) : w.cell? ⟨B, i, none⟩ = some (.int .u32 (N (wd l i))) := by
  rw [HasR.cell h, rowW_get l i hi]
theorem HasW.free {w : World} {B : Nat} {t : TypeId} {l : List (BitVec 32)} (h : HasW w B t l) (i : Nat) : w.frozen? ⟨B, i, none⟩ = false := HasR.free h i
theorem HasW.lt {w : World} {B : Nat} {t : TypeId} {l : List (BitVec 32)} (h : HasW w B t l) : B < w.heap.size := HasR.lt h
theorem HasW.set {w : World} {B : Nat} {t : TypeId} {l : List (BitVec 32)} (h : HasW w B t l) (i : Nat) (x : BitVec 32) : HasW (w.setCell ⟨B, i, none⟩ (.int .u32 (N x))) B t (l.set i x) := by
  have := HasR.set h i (.int .u32 (N x))
  unfold HasW; rw [← rowW_set]; exact this
theorem HasW.other {w : World} {B : Nat} {t : TypeId} {l : List (BitVec 32)} (h : HasW w B t l) (a : Addr) (ha : B ≠ a.block) (v : Value) : HasW (w.setCell a v) B t l := HasR.other h a ha v
theorem HasW.alloc {w : World} {B : Nat} {t : TypeId} {l : List (BitVec 32)} (h : HasW w B t l) (o : Obj) : HasW (w.alloc o) B t l := HasR.alloc h o
theorem HasW.drew {w : World} {B : Nat} {t : TypeId} {l : List (BitVec 32)} (h : HasW w B t l) : HasW w.drew B t l := h
theorem HasW.drewN {w : World} {B : Nat} {t : TypeId} {l : List (BitVec 32)} (h : HasW w B t l) (n : Nat) : HasW (w.drewN n) B t l := h
theorem HasW.below {w w' : World} {b B : Nat} {t : TypeId} {l : List (BitVec 32)} (h : HasW w B t l) (hb : Below b w w') (hB : B < b) : HasW w' B t l := HasR.below h hb hB
theorem HasR.sets : ∀ (vs : List Value) (o : Nat) (w : World) (B : Nat) (t : TypeId) (cs : Array Value), HasR w B t cs → o + vs.length ≤ cs.size → HasR (w.setCells B o vs) B t (cs.toList.take o ++ vs ++ cs.toList.drop (o + vs.length)).toArray
  | [], o, w, B, t, cs, h, _ => by simpa [World.setCells] using h
  | v :: r, o, w, B, t, cs, h, hl => by
    simp only [List.length_cons] at hl
    have ih := HasR.sets r (o + 1) _ B t _ (HasR.set h o v) (by simp; omega)
    have e : (cs.setIfInBounds o v).toList.take (o + 1) ++ r ++ (cs.setIfInBounds o v).toList.drop (o + 1 + r.length) = cs.toList.take o ++ v :: r ++ cs.toList.drop (o + (v :: r).length) := by
      rw [Array.toList_setIfInBounds]
      have ho : o < cs.toList.length := by simp; omega
      rw [List.drop_set_of_lt (by omega)]
      have e1 : (cs.toList.set o v).take (o + 1) = cs.toList.take o ++ [v] := by
        rw [List.take_succ_eq_append_getElem (by simpa using ho), List.getElem_set_self, List.take_set_of_le (Nat.le_refl _)]
      rw [e1]
      have e2 : o + 1 + r.length = o + (v :: r).length := by simp; omega
      rw [e2]; simp
    rw [e] at ih
    exact ih
theorem HasR.whole {w : World} {B : Nat} {t : TypeId} {cs : Array Value} (h : HasR w B t cs) (vs : List Value) (hl : vs.length = cs.size) : HasR (w.setCells B 0 vs) B t vs.toArray := by
  have := HasR.sets vs 0 w B t cs h (by omega)
  have e : cs.toList.take 0 ++ vs ++ cs.toList.drop (0 + vs.length) = vs := by
    rw [List.drop_of_length_le (by simp; omega)]; simp
  rw [e] at this; exact this
theorem HasR.others : ∀ (vs : List Value) (o : Nat) (w : World) (b B : Nat) (t : TypeId) (cs : Array Value), HasR w B t cs → B ≠ b → HasR (w.setCells b o vs) B t cs
  | [], _, _, _, _, _, _, h, _ => h
  | v :: r, o, _, b, B, t, cs, h, hB => HasR.others r (o + 1) _ b B t cs (HasR.other h ⟨b, o, none⟩ hB v) hB
theorem below_setCells : ∀ (vs : List Value) (o : Nat) (a w : World) (b B : Nat), Below B a w → B ≤ b → Below B a (w.setCells b o vs)
  | [], _, _, _, _, _, h, _ => h
  | v :: r, o, a, _, b, B, h, hB => below_setCells r (o + 1) a _ b B (h.setCell hB v) hB
theorem size_setCells : ∀ (vs : List Value) (o : Nat) (w : World) (b : Nat), (w.setCells b o vs).heap.size = w.heap.size
  | [], _, _, _ => rfl
  | v :: r, o, w, b => by
    have := size_setCells r (o + 1) (w.setCell ⟨b, o, none⟩ v) b
    simpa [World.setCells] using this
theorem HasR.there {w : World} {B : Nat} {t : TypeId} {cs : Array Value} (h : HasR w B t cs) : w.there B 0 cs.size := fun j hj => by
  simp only [Nat.zero_add]
  exact ⟨by rw [HasR.cell h, Array.getElem?_eq_getElem hj]; rfl, HasR.free h j⟩
theorem rowW_one (l : List (BitVec 32)) : (rowW l).all (·.oneCell') = true := by
  refine Array.all_eq_true_iff_forall_mem.2 ?_
  intro v hv
  simp only [rowW, List.mem_toArray, List.mem_map] at hv
  obtain ⟨x, _, rfl⟩ := hv
  rfl
/-- Sixty-four noughts. -/
def zs : List (BitVec 32) := List.replicate 64 0
theorem zs_len : zs.length = 64 := rfl
theorem keep_cell {w : World} {B i j : Nat} {v u : Value} (h : w.cell? ⟨B, i, none⟩ = some u) (hij : j ≠ i) : (w.setCell ⟨B, j, none⟩ v).cell? ⟨B, i, none⟩ = some u := by
  have e : (w.setCell ⟨B, j, none⟩ v).cell? ⟨B, i, none⟩ = w.cell? ⟨B, i, none⟩ := World.cell?_setCell_other w ⟨B, j, none⟩ ⟨B, i, none⟩ v (by intro e; injection e; omega)
  rw [e]; exact h
theorem hide {p : Prop} (h : p) : Hid p := h
theorem HasR.new2 (w : World) (o : Obj) (t : TypeId) (cs : Array Value) : HasR ((w.alloc o).alloc (.cells cs t)) (w.heap.size + 1) t cs := heap_alloc2_new w _ _
theorem zeros64 : (#[.int .u32 0, .int .u32 0, .int .u32 0, .int .u32 0, .int .u32 0, .int .u32 0, .int .u32 0, .int .u32 0, .int .u32 0, .int .u32 0, .int .u32 0, .int .u32 0, .int .u32 0, .int .u32 0, .int .u32 0, .int .u32 0, .int .u32 0, .int .u32 0, .int .u32 0, .int .u32 0, .int .u32 0, .int .u32 0, .int .u32 0, .int .u32 0, .int .u32 0, .int .u32 0, .int .u32 0, .int .u32 0, .int .u32 0, .int .u32 0, .int .u32 0, .int .u32 0, .int .u32 0, .int .u32 0, .int .u32 0, .int .u32 0, .int .u32 0, .int .u32 0, .int .u32 0, .int .u32 0, .int .u32 0, .int .u32 0, .int .u32 0, .int .u32 0, .int .u32 0, .int .u32 0, .int .u32 0, .int .u32 0, .int .u32 0, .int .u32 0, .int .u32 0, .int .u32 0, .int .u32 0, .int .u32 0, .int .u32 0, .int .u32 0, .int .u32 0, .int .u32 0, .int .u32 0, .int .u32 0, .int .u32 0, .int .u32 0, .int .u32 0, .int .u32 0] : Array Value) = rowW zs := rfl
/-- A whole row of words is stored into a block. (Said of the operation as it is written, so that it is met by looking.) -/
theorem store_row {P : Program} {ops : Array Oper} {rest : List Oper} {a : Act} {w : World} {Q : Exit → Act → World → Prop} {t : TypeId} {pos : String} {af : Array Edge} {x y : Operand} (ty : TypeId) (b : Nat) (l : List (BitVec 32)) (tt : TypeId) (cs : Array Value)
    (hx : a.eval x = .pointer (some ⟨b, 0, none⟩)) (hy : a.eval y = .agg (rowW l)) (hr : HasR w b tt cs) (hl : l.length = cs.size) (hi : (P.info? ty).map (·.size) = some l.length)
    (h : wpList P ops Q rest (a.put none undef) (w.setCells b 0 (rowW l).toList)) :
    wpList P ops Q (⟨none, .store ty x y, t, pos, af, none⟩ :: rest) a w :=
  wpList_store_mid rfl ty x y rfl b 0 (rowW l) hx hy (by rw [rowW_size, hl]; exact hr.there) (by rw [rowW_size]; exact hi) (rowW_one l) h
/-- A whole row of words is read out of a block. -/
theorem load_row {P : Program} {ops : Array Oper} {rest : List Oper} {a : Act} {w : World} {Q : Exit → Act → World → Prop} {t : TypeId} {pos : String} {af : Array Edge} {x : Operand} {d : Tmp} (ty : TypeId) (b : Nat) (l : List (BitVec 32)) (tt : TypeId) {td : TypeDesc}
    (hx : a.eval x = .pointer (some ⟨b, 0, none⟩)) (hr : HasW w b tt l) (hu : P.underlying ty = some td) (hd : (match td with | .struct _ | .array _ _ => true | _ => false) = true) (hi : (P.info? ty).map (·.size) = some l.length)
    (h : wpList P ops Q rest (a.put (some d) (.agg (rowW l))) w) :
    wpList P ops Q (⟨some d, .load ty x, t, pos, af, none⟩ :: rest) a w :=
  wpList_load_row rfl ty x rfl b hx tt (rowW l) (0, 0) td hr hu hd (by rw [rowW_size]; exact hi) h
theorem whole_words {w W : World} {B : Nat} {t : TypeId} {cs : Array Value} {l : List (BitVec 32)} (h : HasR w B t cs) (hW : w.setCells B 0 (rowW l).toList = W) (hl : l.length = cs.size) : HasW W B t l := by
  have := HasR.whole h (rowW l).toList (by rw [Array.length_toList, rowW_size, hl])
  rw [hW] at this
  show HasR W B t (rowW l)
  simpa using this
theorem HasR.others' {w W : World} {b B o : Nat} {t : TypeId} {cs : Array Value} {vs : List Value} (h : HasR w B t cs) (hW : w.setCells b o vs = W) (hB : B ≠ b) : HasR W B t cs := hW ▸ HasR.others vs o w b B t cs h hB
theorem below_setCells' {a w W : World} {b B o : Nat} {vs : List Value} (h : Below B a w) (hW : w.setCells b o vs = W) (hB : B ≤ b) : Below B a W := hW ▸ below_setCells vs o a w b B h hB
theorem HasR.new' {w : World} {B : Nat} (h : w.heap.size = B) (t : TypeId) (cs : Array Value) : HasR (w.alloc (.cells cs t)) B t cs := h ▸ HasR.new w t cs
theorem HasR.set8 {w : World} {B : Nat} {t : TypeId} {cs : Array Value} (h : HasR w B t cs) (hs : cs.size = 8) (x0 x1 x2 x3 x4 x5 x6 x7 : Value) :
    HasR ((((((((w.setCell ⟨B, 0, none⟩ x0).setCell ⟨B, 1, none⟩ x1).setCell ⟨B, 2, none⟩ x2).setCell ⟨B, 3, none⟩ x3).setCell ⟨B, 4, none⟩ x4).setCell ⟨B, 5, none⟩ x5).setCell ⟨B, 6, none⟩ x6).setCell ⟨B, 7, none⟩ x7) B t #[x0, x1, x2, x3, x4, x5, x6, x7] :=
  HasR.whole h [x0, x1, x2, x3, x4, x5, x6, x7] (by simp [hs])
theorem HasR.other8 {w : World} {b B : Nat} {t : TypeId} {cs : Array Value} (h : HasR w B t cs) (hB : B ≠ b) (x0 x1 x2 x3 x4 x5 x6 x7 : Value) :
    HasR ((((((((w.setCell ⟨b, 0, none⟩ x0).setCell ⟨b, 1, none⟩ x1).setCell ⟨b, 2, none⟩ x2).setCell ⟨b, 3, none⟩ x3).setCell ⟨b, 4, none⟩ x4).setCell ⟨b, 5, none⟩ x5).setCell ⟨b, 6, none⟩ x6).setCell ⟨b, 7, none⟩ x7) B t cs :=
  HasR.others [x0, x1, x2, x3, x4, x5, x6, x7] 0 w b B t cs h hB
theorem below_set8 {a w : World} {b B : Nat} (h : Below B a w) (hB : B ≤ b) (x0 x1 x2 x3 x4 x5 x6 x7 : Value) :
    Below B a ((((((((w.setCell ⟨b, 0, none⟩ x0).setCell ⟨b, 1, none⟩ x1).setCell ⟨b, 2, none⟩ x2).setCell ⟨b, 3, none⟩ x3).setCell ⟨b, 4, none⟩ x4).setCell ⟨b, 5, none⟩ x5).setCell ⟨b, 6, none⟩ x6).setCell ⟨b, 7, none⟩ x7) :=
  below_setCells [x0, x1, x2, x3, x4, x5, x6, x7] 0 a w b B h hB
end Go.Proofs.YtkbaalenbpgheaaGreatDoor
