/- Texts of this proof, one behind the other. -/
import Derived.Laws.BitsAllLaws
import Derived.Laws.Entries
import Derived.WalkKit
import Derived.WalkSpells
import Derived.WalkLawsBesides
import Derived.Laws.IdiomCopy
import Derived.Deep.MidRow
import Derived.ArgAppend
import Derived.Deep.AppendLies
import Derived.Laws.IdiomStrings
/- Words of 32 bits as the walks spell them: a word is 'N x' for x a bit vector; what the program's operations on words come to. -/
namespace Go.Proofs.YtjobghphjkeohaaDoor
open Go

/-- The number of a word. -/
def N (x : BitVec 32) : Int := (x.toNat : Int)

theorem N_nonneg (x : BitVec 32) : 0 ≤ N x := by unfold N; omega
theorem N_lt (x : BitVec 32) : N x < 4294967296 := by unfold N; have := x.isLt; omega
theorem ofInt_N (x : BitVec 32) : BitVec.ofInt 32 (N x) = x := by
  unfold N; rw [BitVec.ofInt_natCast]; simp
theorem wrapN (n : Int) : IntKind.u32.wrap n = N (BitVec.ofInt 32 n) := by
  rw [IntKind.wrap_u32']; unfold N; rw [BitVec.toNat_ofInt]; omega
theorem N_xor (x y : BitVec 32) : bits .xor .u32 (N x) (N y) = N (x ^^^ y) := by
  show IntKind.u32.wrap ((BitVec.ofInt 32 (N x) ^^^ BitVec.ofInt 32 (N y)).toNat : Int) = _
  rw [ofInt_N, ofInt_N, wrapN]; exact congrArg N (ofInt_N _)
theorem N_and (x y : BitVec 32) : bits .and .u32 (N x) (N y) = N (x &&& y) := by
  show IntKind.u32.wrap ((BitVec.ofInt 32 (N x) &&& BitVec.ofInt 32 (N y)).toNat : Int) = _
  rw [ofInt_N, ofInt_N, wrapN]; exact congrArg N (ofInt_N _)
theorem N_or (x y : BitVec 32) : bits .or .u32 (N x) (N y) = N (x ||| y) := by
  show IntKind.u32.wrap ((BitVec.ofInt 32 (N x) ||| BitVec.ofInt 32 (N y)).toNat : Int) = _
  rw [ofInt_N, ofInt_N, wrapN]; exact congrArg N (ofInt_N _)
theorem N_add (x y : BitVec 32) : IntKind.u32.wrap (N x + N y) = N (x + y) := by
  rw [wrapN, BitVec.ofInt_add, ofInt_N, ofInt_N]
theorem N_shr (x : BitVec 32) (k : Nat) : N x / 2 ^ k = N (x >>> k) := by
  unfold N; rw [BitVec.toNat_ushiftRight, Nat.shiftRight_eq_div_pow]; simp
theorem N_shl (x : BitVec 32) (k : Nat) : IntKind.u32.wrap (N x * 2 ^ k) = N (x <<< k) := by
  rw [IntKind.wrap_u32']; unfold N; rw [BitVec.toNat_shiftLeft, Nat.shiftLeft_eq]; simp
theorem N_addm (x y : BitVec 32) : (N x + N y) % 4294967296 = N (x + y) := by
  rw [← IntKind.wrap_u32']; exact N_add x y
theorem N_shlm (x : BitVec 32) (k : Nat) : N x * 2 ^ k % 4294967296 = N (x <<< k) := by
  rw [← IntKind.wrap_u32']; exact N_shl x k
theorem xor_ones (x : BitVec 32) : BitVec.allOnes 32 ^^^ x = ~~~x := by
  apply BitVec.eq_of_getLsbD_eq
  intro i hi
  rw [BitVec.getLsbD_xor, BitVec.getLsbD_allOnes, BitVec.getLsbD_not]
  simp [hi]
theorem N_not (x : BitVec 32) : bits .xor .u32 IntKind.u32.max (N x) = N (~~~x) := by
  have e : IntKind.u32.max = N (BitVec.allOnes 32) := by decide +kernel
  rw [e, N_xor, xor_ones]
theorem N_add3 (x y z : BitVec 32) : (N x + N y + N z) % 4294967296 = N (x + y + z) := by
  rw [← N_addm (x + y) z, ← N_addm x y]; omega
theorem N_add4 (x y z t : BitVec 32) : (N x + N y + N z + N t) % 4294967296 = N (x + y + z + t) := by
  rw [← N_addm (x + y + z) t, ← N_add3 x y z]; omega
theorem N_add5 (x y z t u : BitVec 32) : (N x + N y + N z + N t + N u) % 4294967296 = N (x + y + z + t + u) := by
  rw [← N_addm (x + y + z + t) u, ← N_add4 x y z t]; omega
theorem N_add12 (x y z : BitVec 32) : (N x + (N y + N z)) % 4294967296 = N (x + (y + z)) := by
  rw [← N_addm x (y + z), ← N_addm y z]; omega
theorem N_add13 (x y z t : BitVec 32) : (N x + (N y + N z + N t)) % 4294967296 = N (x + (y + z + t)) := by
  rw [← N_addm x (y + z + t), ← N_add3 y z t]; omega
theorem N_zero : N 0 = 0 := rfl
theorem N_inj {x y : BitVec 32} (h : N x = N y) : x = y := by
  have := congrArg (BitVec.ofInt 32) h; rwa [ofInt_N, ofInt_N] at this
theorem N_ofNat (n : Nat) (h : n < 4294967296) : N (BitVec.ofNat 32 n) = (n : Int) := by
  unfold N; rw [BitVec.toNat_ofNat, Nat.mod_eq_of_lt (by omega)]

/-- The i-th of some words; nought beyond them. -/
def wd (l : List (BitVec 32)) (i : Nat) : BitVec 32 := l.getD i 0
theorem wd_set_same (l : List (BitVec 32)) (i : Nat) (x : BitVec 32) (h : i < l.length) : wd (l.set i x) i = x := by simp [wd, h]
theorem wd_set_other (l : List (BitVec 32)) (i j : Nat) (x : BitVec 32) (h : i ≠ j) : wd (l.set i x) j = wd l j := by
  simp [wd, List.getElem?_set_ne h]

/-- A word turned to the right. -/
def rr (x : BitVec 32) (k : Nat) : BitVec 32 := x <<< (32 - k) ||| x >>> k
theorem rr_add (x : BitVec 32) (k : Nat) (_h : k ≤ 32) : x >>> k + x <<< (32 - k) = rr x k := by
  unfold rr
  rw [BitVec.or_comm]
  refine BitVec.add_eq_or_of_and_eq_zero _ _ ?_
  apply BitVec.eq_of_getLsbD_eq
  intro i hi
  simp [BitVec.getLsbD_shiftLeft]
  intro h1 _ h3
  rw [BitVec.getLsbD_of_ge x (k + i) (by omega)] at h1
  exact absurd h1 (by simp)
end Go.Proofs.YtjobghphjkeohaaDoor

/- A block of memory that holds words: what its cells read as, and what a store, a new block, a draw and a call above leave of it. -/
namespace Go.Proofs.YtjobghphjkeohaaDoor
open Go Go.RowKit

/-- Words as cells. -/
def rowW (l : List (BitVec 32)) : Array Value := (l.map fun x => Value.int .u32 (N x)).toArray
theorem rowW_size (l : List (BitVec 32)) : (rowW l).size = l.length := by simp [rowW]
theorem rowW_get (l : List (BitVec 32)) (i : Nat) (h : i < l.length) : (rowW l)[i]? = some (.int .u32 (N (wd l i))) := by
  simp [rowW, wd, h]
theorem rowW_set (l : List (BitVec 32)) (i : Nat) (x : BitVec 32) : (rowW l).setIfInBounds i (.int .u32 (N x)) = rowW (l.set i x) := by
  simp [rowW, List.map_set]
/-- Block B holds cells cs. -/
def HasR (w : World) (B : Nat) (t : TypeId) (cs : Array Value) : Prop := w.heap[B]? = some (.cells cs t (0, 0))
theorem HasR.cell {w : World} {B : Nat} {t : TypeId} {cs : Array Value} (h : HasR w B t cs) (i : Nat) : w.cell? ⟨B, i, none⟩ = cs[i]? :=
  cell_of_row w B i cs t (0, 0) h
theorem HasR.free {w : World} {B : Nat} {t : TypeId} {cs : Array Value} (h : HasR w B t cs) (i : Nat) : w.frozen? ⟨B, i, none⟩ = false :=
  frozen_of_row w B i cs t h
theorem HasR.lt {w : World} {B : Nat} {t : TypeId} {cs : Array Value} (h : HasR w B t cs) : B < w.heap.size := lt_of_block h
theorem HasR.set {w : World} {B : Nat} {t : TypeId} {cs : Array Value} (h : HasR w B t cs) (i : Nat) (v : Value) : HasR (w.setCell ⟨B, i, none⟩ v) B t (cs.setIfInBounds i v) := by
  unfold HasR at *
  have := heap_setCell_same w B i cs t v h
  simpa using this
theorem HasR.other {w : World} {B : Nat} {t : TypeId} {cs : Array Value} (h : HasR w B t cs) (a : Addr) (ha : B ≠ a.block) (v : Value) : HasR (w.setCell a v) B t cs := by
  unfold HasR at *; rw [heap_setCell_other w a B v ha]; exact h
theorem HasR.alloc {w : World} {B : Nat} {t : TypeId} {cs : Array Value} (h : HasR w B t cs) (o : Obj) : HasR (w.alloc o) B t cs := by
  have hl := h.lt
  unfold HasR at *; rw [Below.heap_alloc w o B hl]; exact h
theorem HasR.drew {w : World} {B : Nat} {t : TypeId} {cs : Array Value} (h : HasR w B t cs) : HasR w.drew B t cs := h
theorem HasR.drewN {w : World} {B : Nat} {t : TypeId} {cs : Array Value} (h : HasR w B t cs) (n : Nat) : HasR (w.drewN n) B t cs := h
theorem HasR.new (w : World) (t : TypeId) (cs : Array Value) : HasR (w.alloc (.cells cs t)) w.heap.size t cs := heap_alloc_new w _
theorem HasR.below {w w' : World} {b B : Nat} {t : TypeId} {cs : Array Value} (h : HasR w B t cs) (hb : Below b w w') (hB : B < b) : HasR w' B t cs := by
  unfold HasR at *; rw [hb.block B hB]; exact h

/-- Block B holds the words l. -/
def HasW (w : World) (B : Nat) (t : TypeId) (l : List (BitVec 32)) : Prop := HasR w B t (rowW l)
theorem HasW.cell {w : World} {B : Nat} {t : TypeId} {l : List (BitVec 32)} (h : HasW w B t l) (i : Nat) (hi : i < l.length) : w.cell? ⟨B, i, none⟩ = some (.int .u32 (N (wd l i))) := by
  rw [HasR.cell h, rowW_get l i hi]
theorem HasW.free {w : World} {B : Nat} {t : TypeId} {l : List (BitVec 32)} (h : HasW w B t l) (i : Nat) : w.frozen? ⟨B, i, none⟩ = false := HasR.free h i
theorem HasW.lt {w : World} {B : Nat} {t : TypeId} {l : List (BitVec 32)} (h : HasW w B t l) : B < w.heap.size := HasR.lt h
theorem HasW.set {w : World} {B : Nat} {t : TypeId} {l : List (BitVec 32)} (h : HasW w B t l) (i : Nat) (x : BitVec 32) : HasW (w.setCell ⟨B, i, none⟩ (.int .u32 (N x))) B t (l.set i x) := by
  have := HasR.set h i (.int .u32 (N x))
  unfold HasW; rw [← rowW_set]; exact this
theorem HasW.other {w : World} {B : Nat} {t : TypeId} {l : List (BitVec 32)} (h : HasW w B t l) (a : Addr) (ha : B ≠ a.block) (v : Value) : HasW (w.setCell a v) B t l := HasR.other h a ha v
theorem HasW.alloc {w : World} {B : Nat} {t : TypeId} {l : List (BitVec 32)} (h : HasW w B t l) (o : Obj) : HasW (w.alloc o) B t l := HasR.alloc h o
theorem HasW.drew {w : World} {B : Nat} {t : TypeId} {l : List (BitVec 32)} (h : HasW w B t l) : HasW w.drew B t l := h
theorem HasW.drewN {w : World} {B : Nat} {t : TypeId} {l : List (BitVec 32)} (h : HasW w B t l) (n : Nat) : HasW (w.drewN n) B t l := h
theorem HasW.below {w w' : World} {b B : Nat} {t : TypeId} {l : List (BitVec 32)} (h : HasW w B t l) (hb : Below b w w') (hB : B < b) : HasW w' B t l := HasR.below h hb hB
theorem HasR.sets : ∀ (vs : List Value) (o : Nat) (w : World) (B : Nat) (t : TypeId) (cs : Array Value), HasR w B t cs → o + vs.length ≤ cs.size → HasR (w.setCells B o vs) B t (cs.toList.take o ++ vs ++ cs.toList.drop (o + vs.length)).toArray
  | [], o, w, B, t, cs, h, _ => by simpa [World.setCells] using h
  | v :: r, o, w, B, t, cs, h, hl => by
    simp only [List.length_cons] at hl
    have ih := HasR.sets r (o + 1) _ B t _ (HasR.set h o v) (by simp; omega)
    have e : (cs.setIfInBounds o v).toList.take (o + 1) ++ r ++ (cs.setIfInBounds o v).toList.drop (o + 1 + r.length) = cs.toList.take o ++ v :: r ++ cs.toList.drop (o + (v :: r).length) := by
      rw [Array.toList_setIfInBounds]
      have ho : o < cs.toList.length := by simp; omega
      rw [List.drop_set_of_lt (by omega)]
      have e1 : (cs.toList.set o v).take (o + 1) = cs.toList.take o ++ [v] := by
        rw [List.take_succ_eq_append_getElem (by simpa using ho), List.getElem_set_self, List.take_set_of_le (Nat.le_refl _)]
      rw [e1]
      have e2 : o + 1 + r.length = o + (v :: r).length := by simp; omega
      rw [e2]; simp
    rw [e] at ih
    exact ih
theorem HasR.whole {w : World} {B : Nat} {t : TypeId} {cs : Array Value} (h : HasR w B t cs) (vs : List Value) (hl : vs.length = cs.size) : HasR (w.setCells B 0 vs) B t vs.toArray := by
  have := HasR.sets vs 0 w B t cs h (by omega)
  have e : cs.toList.take 0 ++ vs ++ cs.toList.drop (0 + vs.length) = vs := by
    rw [List.drop_of_length_le (by simp; omega)]; simp
  rw [e] at this; exact this
theorem HasR.others : ∀ (vs : List Value) (o : Nat) (w : World) (b B : Nat) (t : TypeId) (cs : Array Value), HasR w B t cs → B ≠ b → HasR (w.setCells b o vs) B t cs
  | [], _, _, _, _, _, _, h, _ => h
  | v :: r, o, _, b, B, t, cs, h, hB => HasR.others r (o + 1) _ b B t cs (HasR.other h ⟨b, o, none⟩ hB v) hB
theorem below_setCells : ∀ (vs : List Value) (o : Nat) (a w : World) (b B : Nat), Below B a w → B ≤ b → Below B a (w.setCells b o vs)
  | [], _, _, _, _, _, h, _ => h
  | v :: r, o, a, _, b, B, h, hB => below_setCells r (o + 1) a _ b B (h.setCell hB v) hB
theorem size_setCells : ∀ (vs : List Value) (o : Nat) (w : World) (b : Nat), (w.setCells b o vs).heap.size = w.heap.size
  | [], _, _, _ => rfl
  | v :: r, o, w, b => by
    have := size_setCells r (o + 1) (w.setCell ⟨b, o, none⟩ v) b
    simpa [World.setCells] using this
theorem HasR.there {w : World} {B : Nat} {t : TypeId} {cs : Array Value} (h : HasR w B t cs) : w.there B 0 cs.size := fun j hj => by
  simp only [Nat.zero_add]
  exact ⟨by rw [HasR.cell h, Array.getElem?_eq_getElem hj]; rfl, HasR.free h j⟩
theorem rowW_one (l : List (BitVec 32)) : (rowW l).all (·.oneCell') = true := by
  refine Array.all_eq_true_iff_forall_mem.2 ?_
  intro v hv
  simp only [rowW, List.mem_toArray, List.mem_map] at hv
  obtain ⟨x, _, rfl⟩ := hv
  rfl
/-- Sixty-four noughts. -/
def zs : List (BitVec 32) := List.replicate 64 0
theorem zs_len : zs.length = 64 := rfl
theorem keep_cell {w : World} {B i j : Nat} {v u : Value} (h : w.cell? ⟨B, i, none⟩ = some u) (hij : j ≠ i) : (w.setCell ⟨B, j, none⟩ v).cell? ⟨B, i, none⟩ = some u := by
  have e : (w.setCell ⟨B, j, none⟩ v).cell? ⟨B, i, none⟩ = w.cell? ⟨B, i, none⟩ := World.cell?_setCell_other w ⟨B, j, none⟩ ⟨B, i, none⟩ v (by intro e; injection e; omega)
  rw [e]; exact h
theorem hide {p : Prop} (h : p) : Hid p := h
theorem HasR.new2 (w : World) (o : Obj) (t : TypeId) (cs : Array Value) : HasR ((w.alloc o).alloc (.cells cs t)) (w.heap.size + 1) t cs := heap_alloc2_new w _ _
theorem zeros64 : (#[.int .u32 0, .int .u32 0, .int .u32 0, .int .u32 0, .int .u32 0, .int .u32 0, .int .u32 0, .int .u32 0, .int .u32 0, .int .u32 0, .int .u32 0, .int .u32 0, .int .u32 0, .int .u32 0, .int .u32 0, .int .u32 0, .int .u32 0, .int .u32 0, .int .u32 0, .int .u32 0, .int .u32 0, .int .u32 0, .int .u32 0, .int .u32 0, .int .u32 0, .int .u32 0, .int .u32 0, .int .u32 0, .int .u32 0, .int .u32 0, .int .u32 0, .int .u32 0, .int .u32 0, .int .u32 0, .int .u32 0, .int .u32 0, .int .u32 0, .int .u32 0, .int .u32 0, .int .u32 0, .int .u32 0, .int .u32 0, .int .u32 0, .int .u32 0, .int .u32 0, .int .u32 0, .int .u32 0, .int .u32 0, .int .u32 0, .int .u32 0, .int .u32 0, .int .u32 0, .int .u32 0, .int .u32 0, .int .u32 0, .int .u32 0, .int .u32 0, .int .u32 0, .int .u32 0, .int .u32 0, .int .u32 0, .int .u32 0, .int .u32 0, .int .u32 0] : Array Value) = rowW zs := rfl
/-- A whole row of words is stored into a block. (Said of the operation as it is written, so that it is met by looking.) -/
theorem store_row {P : Program} {ops : Array Oper} {rest : List Oper} {a : Act} {w : World} {Q : Exit → Act → World → Prop} {t : TypeId} {pos : String} {af : Array Edge} {x y : Operand} (ty : TypeId) (b : Nat) (l : List (BitVec 32)) (tt : TypeId) (cs : Array Value)
    (hx : a.eval x = .pointer (some ⟨b, 0, none⟩)) (hy : a.eval y = .agg (rowW l)) (hr : HasR w b tt cs) (hl : l.length = cs.size) (hi : (P.info? ty).map (·.size) = some l.length)
    (h : wpList P ops Q rest (a.put none undef) (w.setCells b 0 (rowW l).toList)) :
    wpList P ops Q (⟨none, .store ty x y, t, pos, af, none⟩ :: rest) a w :=
  wpList_store_mid rfl ty x y rfl b 0 (rowW l) hx hy (by rw [rowW_size, hl]; exact hr.there) (by rw [rowW_size]; exact hi) (rowW_one l) h
/-- A whole row of words is read out of a block. -/
theorem load_row {P : Program} {ops : Array Oper} {rest : List Oper} {a : Act} {w : World} {Q : Exit → Act → World → Prop} {t : TypeId} {pos : String} {af : Array Edge} {x : Operand} {d : Tmp} (ty : TypeId) (b : Nat) (l : List (BitVec 32)) (tt : TypeId) {td : TypeDesc}
    (hx : a.eval x = .pointer (some ⟨b, 0, none⟩)) (hr : HasW w b tt l) (hu : P.underlying ty = some td) (hd : (match td with | .struct _ | .array _ _ => true | _ => false) = true) (hi : (P.info? ty).map (·.size) = some l.length)
    (h : wpList P ops Q rest (a.put (some d) (.agg (rowW l))) w) :
    wpList P ops Q (⟨some d, .load ty x, t, pos, af, none⟩ :: rest) a w :=
  wpList_load_row rfl ty x rfl b hx tt (rowW l) (0, 0) td hr hu hd (by rw [rowW_size]; exact hi) h
theorem whole_words {w W : World} {B : Nat} {t : TypeId} {cs : Array Value} {l : List (BitVec 32)} (h : HasR w B t cs) (hW : w.setCells B 0 (rowW l).toList = W) (hl : l.length = cs.size) : HasW W B t l := by
  have := HasR.whole h (rowW l).toList (by rw [Array.length_toList, rowW_size, hl])
  rw [hW] at this
  show HasR W B t (rowW l)
  simpa using this
theorem HasR.others' {w W : World} {b B o : Nat} {t : TypeId} {cs : Array Value} {vs : List Value} (h : HasR w B t cs) (hW : w.setCells b o vs = W) (hB : B ≠ b) : HasR W B t cs := hW ▸ HasR.others vs o w b B t cs h hB
theorem below_setCells' {a w W : World} {b B o : Nat} {vs : List Value} (h : Below B a w) (hW : w.setCells b o vs = W) (hB : B ≤ b) : Below B a W := hW ▸ below_setCells vs o a w b B h hB
theorem HasR.new' {w : World} {B : Nat} (h : w.heap.size = B) (t : TypeId) (cs : Array Value) : HasR (w.alloc (.cells cs t)) B t cs := h ▸ HasR.new w t cs
theorem HasR.set8 {w : World} {B : Nat} {t : TypeId} {cs : Array Value} (h : HasR w B t cs) (hs : cs.size = 8) (x0 x1 x2 x3 x4 x5 x6 x7 : Value) :
    HasR ((((((((w.setCell ⟨B, 0, none⟩ x0).setCell ⟨B, 1, none⟩ x1).setCell ⟨B, 2, none⟩ x2).setCell ⟨B, 3, none⟩ x3).setCell ⟨B, 4, none⟩ x4).setCell ⟨B, 5, none⟩ x5).setCell ⟨B, 6, none⟩ x6).setCell ⟨B, 7, none⟩ x7) B t #[x0, x1, x2, x3, x4, x5, x6, x7] :=
  HasR.whole h [x0, x1, x2, x3, x4, x5, x6, x7] (by simp [hs])
theorem HasR.other8 {w : World} {b B : Nat} {t : TypeId} {cs : Array Value} (h : HasR w B t cs) (hB : B ≠ b) (x0 x1 x2 x3 x4 x5 x6 x7 : Value) :
    HasR ((((((((w.setCell ⟨b, 0, none⟩ x0).setCell ⟨b, 1, none⟩ x1).setCell ⟨b, 2, none⟩ x2).setCell ⟨b, 3, none⟩ x3).setCell ⟨b, 4, none⟩ x4).setCell ⟨b, 5, none⟩ x5).setCell ⟨b, 6, none⟩ x6).setCell ⟨b, 7, none⟩ x7) B t cs :=
  HasR.others [x0, x1, x2, x3, x4, x5, x6, x7] 0 w b B t cs h hB
theorem below_set8 {a w : World} {b B : Nat} (h : Below B a w) (hB : B ≤ b) (x0 x1 x2 x3 x4 x5 x6 x7 : Value) :
    Below B a ((((((((w.setCell ⟨b, 0, none⟩ x0).setCell ⟨b, 1, none⟩ x1).setCell ⟨b, 2, none⟩ x2).setCell ⟨b, 3, none⟩ x3).setCell ⟨b, 4, none⟩ x4).setCell ⟨b, 5, none⟩ x5).setCell ⟨b, 6, none⟩ x6).setCell ⟨b, 7, none⟩ x7) :=
  below_setCells [x0, x1, x2, x3, x4, x5, x6, x7] 0 a w b B h hB
end Go.Proofs.YtjobghphjkeohaaDoor

/- Slices that the calls themselves make: a row of cells that is read, grown by appending, and turned into a text. -/
namespace Go.Proofs.YtjobghphjkeohaaDoor
open Go Go.RowKit

/-- The slice of n elements at the head of block g, of capacity cap, has the elements xs; nothing in it is shut. -/
structure BR (w : World) (base : Nat) (e : TypeId) (g n cap : Nat) (xs : List Value) : Prop where
  len : xs.length = n
  base : base ≤ g
  le : n ≤ cap
  blk : ∃ cur fr, w.heap[g]? = some (.cells cur e fr) ∧ cur.size = cap ∧ cur.toList.take n = xs ∧ (fr.2 ≤ fr.1 ∨ cap ≤ fr.1)

theorem BR.lt {w : World} {base : Nat} {e : TypeId} {g n cap : Nat} {xs : List Value} (h : BR w base e g n cap xs) : g < w.heap.size := by
  obtain ⟨cur, fr, hg, _⟩ := h.blk
  exact lt_of_block hg
theorem BR.same {w w' : World} {base : Nat} {e : TypeId} {g n cap : Nat} {xs : List Value} (h : BR w base e g n cap xs) (hw : w'.heap[g]? = w.heap[g]?) : BR w' base e g n cap xs :=
  ⟨h.len, h.base, h.le, by rw [hw]; exact h.blk⟩
theorem BR.cell {w : World} {base : Nat} {e : TypeId} {g n cap : Nat} {xs : List Value} (h : BR w base e g n cap xs) (j : Nat) (hj : j < n) : w.cell? ⟨g, j, none⟩ = xs[j]? := by
  obtain ⟨cur, fr, hg, hs, ht, _⟩ := h.blk
  rw [cell_of_row w g j cur e fr hg, ← ht, List.getElem?_take_of_lt hj]
  simp
theorem BR.alloc {w : World} {base : Nat} {e : TypeId} {g n cap : Nat} {xs : List Value} (h : BR w base e g n cap xs) (o : Obj) : BR (w.alloc o) base e g n cap xs :=
  h.same (Below.heap_alloc w o g h.lt)
theorem BR.drew {w : World} {base : Nat} {e : TypeId} {g n cap : Nat} {xs : List Value} (h : BR w base e g n cap xs) : BR w.drew base e g n cap xs := h.same rfl
theorem BR.drewN {w : World} {base : Nat} {e : TypeId} {g n cap : Nat} {xs : List Value} (h : BR w base e g n cap xs) (k : Nat) : BR (w.drewN k) base e g n cap xs := h.same rfl
theorem BR.other {w : World} {base : Nat} {e : TypeId} {g n cap : Nat} {xs : List Value} (h : BR w base e g n cap xs) (a : Addr) (ha : g ≠ a.block) (v : Value) : BR (w.setCell a v) base e g n cap xs :=
  h.same (heap_setCell_other w a g v ha)
theorem BR.below {w w' : World} {b base : Nat} {e : TypeId} {g n cap : Nat} {xs : List Value} (h : BR w base e g n cap xs) (hb : Below b w w') (hg : g < b) : BR w' base e g n cap xs :=
  h.same (hb.block g hg)
theorem BR.kept {w w' : World} {base : Nat} {e : TypeId} {g n cap : Nat} {xs : List Value} {row : Option Nat} (h : BR w base e g n cap xs) (hg : w.grownBy w' row) (hr : some g ≠ row) : BR w' base e g n cap xs :=
  h.same (hg.block g h.lt hr)
theorem BR.mono {w : World} {base base' : Nat} {e : TypeId} {g n cap : Nat} {xs : List Value} (h : BR w base e g n cap xs) (hb : base' ≤ base) : BR w base' e g n cap xs :=
  ⟨h.len, Nat.le_trans hb h.base, h.le, h.blk⟩
theorem HasR.kept {w w' : World} {B : Nat} {t : TypeId} {cs : Array Value} {row : Option Nat} (h : HasR w B t cs) (hg : w.grownBy w' row) (hr : some B ≠ row) : HasR w' B t cs := by
  have hl := h.lt
  unfold HasR at *; rw [hg.block B hl hr]; exact h
theorem BR.of_owns {w : World} {base : Nat} {e : TypeId} {v : Value} {n : Nat} {xs : List Value} (h : w.ownsRow base e 1 v n xs) (hn : 0 < n) : ∃ g cap, v = .slice (some ⟨g, 0, none⟩) n cap ∧ BR w base e g n cap xs := by
  obtain ⟨hl, h2⟩ := h
  rcases h2 with ⟨_, h0⟩ | ⟨g, cap, cur, hv, hb, hg, hle, _, hs, ht⟩
  · omega
  · simp only [Nat.mul_one] at hl hs ht
    exact ⟨g, cap, hv, ⟨hl, hb, hle, cur, (0, 0), hg, hs, ht, .inl (Nat.le_refl _)⟩⟩
/-- The head of a block that has just been laid with the one element. -/
theorem news_one {w : World} (x : Value) (e : TypeId) : ∀ (j : Nat) (u : Value), [x][j]? = some u → (w.alloc (.cells #[x] e)).cell? ((⟨w.heap.size, 0, none⟩ : Addr).add j) = some u :=
  World.news_of_block (heap_alloc_new w _)
theorem news_blk {w : World} {B : Nat} {e : TypeId} {cs : Array Value} (h : HasR w B e cs) : ∀ (j : Nat) (u : Value), cs.toList[j]? = some u → w.cell? ((⟨B, 0, none⟩ : Addr).add j) = some u :=
  World.news_of_block h

/-- What the table says of a slice's element that is one cell. -/
structure Elem (P : Program) (t e : TypeId) (i : TypeInfo) (z : Value) (bytes : Nat) : Prop where
  ht : P.underlying t = some (.slice e)
  hi : P.info? e = some i
  hz : i.zero = some z
  hs : i.size = 1
  hb : i.bytes = bytes
  hc : z.cells.size = 1
  h8 : bytes ≤ 16

/-- The slice that is appended to: nil, or a row of the calls' own. -/
def BRn (w : World) (base : Nat) (e : TypeId) (v : Value) (n : Nat) (xs : List Value) : Prop :=
  (v = .slice none 0 0 ∧ n = 0 ∧ xs = []) ∨ ∃ g cap, v = .slice (some ⟨g, 0, none⟩) n cap ∧ BR w base e g n cap xs
theorem BRn.nil (w : World) (base : Nat) (e : TypeId) : BRn w base e (.slice none 0 0) 0 [] := .inl ⟨rfl, rfl, rfl⟩
theorem BRn.of {w : World} {base : Nat} {e : TypeId} {g n cap : Nat} {xs : List Value} (h : BR w base e g n cap xs) : BRn w base e (.slice (some ⟨g, 0, none⟩) n cap) n xs := .inr ⟨g, cap, rfl, h⟩
theorem BRn.alloc {w : World} {base : Nat} {e : TypeId} {v : Value} {n : Nat} {xs : List Value} (h : BRn w base e v n xs) (o : Obj) : BRn (w.alloc o) base e v n xs := by
  rcases h with h | ⟨g, cap, hv, h⟩
  · exact .inl h
  · exact .inr ⟨g, cap, hv, h.alloc o⟩
theorem BRn.len {w : World} {base : Nat} {e : TypeId} {v : Value} {n : Nat} {xs : List Value} (h : BRn w base e v n xs) : xs.length = n := by
  rcases h with ⟨_, h1, h2⟩ | ⟨g, cap, hv, h⟩
  · rw [h1, h2]; rfl
  · exact h.len

theorem grownBy_setCells (w : World) (g o : Nat) (vs : List Value) : w.grownBy (w.setCells g o vs) (some g) := by
  have hb : ∀ (vs : List Value) (o : Nat) (w : World), (w.setCells g o vs).os = w.os ∧ (w.setCells g o vs).tape = w.tape ∧ (w.setCells g o vs).output = w.output ∧ ∀ k, k ≠ g → (w.setCells g o vs).heap[k]? = w.heap[k]? := by
    intro vs
    induction vs with
    | nil => intro o w; exact ⟨rfl, rfl, rfl, fun _ _ => rfl⟩
    | cons v r ih =>
      intro o w
      obtain ⟨h1, h2, h3, h4⟩ := ih (o + 1) (w.setCell ⟨g, o, none⟩ v)
      exact ⟨h1, h2, h3, fun k hk => by rw [World.setCells, h4 k hk]; exact heap_setCell_other w ⟨g, o, none⟩ k v hk⟩
  obtain ⟨h1, h2, h3, h4⟩ := hb vs o w
  exact ⟨h1, h2, h3, by rw [size_setCells]; exact Nat.le_refl _, fun k _ hk => h4 k (fun e => hk (by rw [e]))⟩

theorem heap_setCells_fr : ∀ (vs : List Value) (o : Nat) (w : World) (g : Nat) (t : TypeId) (cur : Array Value) (fr : Nat × Nat), w.heap[g]? = some (.cells cur t fr) → o + vs.length ≤ cur.size →
    (w.setCells g o vs).heap[g]? = some (.cells (cur.toList.take o ++ vs ++ cur.toList.drop (o + vs.length)).toArray t fr)
  | [], o, w, g, t, cur, fr, h, _ => by simpa [World.setCells] using h
  | v :: r, o, w, g, t, cur, fr, h, hl => by
    simp only [List.length_cons] at hl
    have h1 : (w.setCell ⟨g, o, none⟩ v).heap[g]? = some (.cells (cur.setIfInBounds o v) t fr) := by
      simp [World.setCell, Array.getElem?_modify, h]
    have ih := heap_setCells_fr r (o + 1) _ g t _ fr h1 (by simp; omega)
    have e : (cur.setIfInBounds o v).toList.take (o + 1) ++ r ++ (cur.setIfInBounds o v).toList.drop (o + 1 + r.length) = cur.toList.take o ++ v :: r ++ cur.toList.drop (o + (v :: r).length) := by
      rw [Array.toList_setIfInBounds]
      have ho : o < cur.toList.length := by simp; omega
      rw [List.drop_set_of_lt (by omega)]
      have e1 : (cur.toList.set o v).take (o + 1) = cur.toList.take o ++ [v] := by
        rw [List.take_succ_eq_append_getElem (by simpa using ho), List.getElem_set_self, List.take_set_of_le (Nat.le_refl _)]
      rw [e1]
      have e2 : o + 1 + r.length = o + (v :: r).length := by simp; omega
      rw [e2]; simp
    rw [e] at ih
    exact ih

/-- APPENDED: to nil or to a row of the calls' own. (Said of the operation as it is written.) -/
theorem append_br {P : Program} {ops : Array Oper} {rest : List Oper} {a : Act} {w : World} {Q : Exit → Act → World → Prop} {tt : TypeId} {pos : String} {af : Array Edge} {s x : Operand} {d : Tmp} {t : TypeId}
    (e : TypeId) {i : TypeInfo} {z : Value} {bytes : Nat} (hE : Elem P t e i z bytes) (base : Nat) (v : Value) (n : Nat) (xs : List Value) (ad : Addr) (m c : Nat) (news : List Value)
    (hs : a.eval s = v) (hx : a.eval x = .slice (some ad) m c) (hv : BRn w base e v n xs) (hm : news.length = m) (hm0 : 0 < m) (hnews : ∀ j u, news[j]? = some u → w.cell? (ad.add j) = some u) (h1 : ∀ u ∈ news, u.oneCell' = true)
    (hlen : n + m ≤ 1000000) (hbase : base ≤ w.heap.size)
    (h : ∀ g cap w', BR w' base e g (n + m) cap (xs ++ news) → w.grownBy w' v.ownBlock → (v.ownBlock = some g ∨ w.heap.size ≤ g) → Below base w w' → wpList P ops Q rest (a.put (some d) (.slice (some ⟨g, 0, none⟩) (n + m) cap)) w') :
    wpList P ops Q (⟨some d, .call { callee := .builtin .append, args := #[s, x], argTypes := #[t, t] }, tt, pos, af, none⟩ :: rest) a w := by
  have hby : (n + m) * bytes ≤ 140737488355328 := by
    have := hE.h8
    have h2 : (n + m) * bytes ≤ 1000000 * 16 := Nat.mul_le_mul hlen this
    omega
  rcases hv with ⟨rfl, rfl, rfl⟩ | ⟨g, cap, rfl, hr⟩
  · refine wpList_append_own w rfl s x t rfl w.heap.size e i z 1 bytes hE.ht hE.hi hE.hz hE.hs hE.hb hE.hc (by omega) (.slice none 0 0) 0 [] hs (World.ownsRow_nil _ _ _ _) ad m c news hx (by omega) hnews h1 (by unfold maxLen; omega) hby (Nat.le_refl _) ?_
    intro v' w' ho hg _
    obtain ⟨g, cap, rfl, hb⟩ := BR.of_owns ho (by omega)
    exact h g cap w' (hb.mono hbase) hg (.inr hb.base) ((Below.refl base w).grown hg hbase (by intro k hk; simp [Value.ownBlock] at hk))
  · obtain ⟨cur, fr, hgb, hsz, htk, hfr⟩ := hr.blk
    have hle := hr.le
    refine wpList_append_arg w rfl s x t rfl e i z 1 bytes hE.ht hE.hi hE.hz hE.hs hE.hb hE.hc (by omega) g 0 n cap xs hs (by rw [hr.len]; omega) ?_ ad m c news hx (by omega) hnews h1 ?_ (by unfold maxLen; omega) hby ?_ ?_
    · intro j u hj
      have hjn : j < n := by
        rw [← hr.len]
        exact (List.getElem?_eq_some_iff.1 hj).1
      rw [Nat.zero_add, hr.cell j hjn]; exact hj
    · intro hroom j hj
      have hj' : 0 + n * 1 + j < cap := by omega
      refine ⟨?_, ?_⟩
      · rw [cell_of_row w g _ cur e fr hgb, Array.getElem?_eq_getElem (by omega)]; rfl
      · unfold World.frozen?
        simp only [hgb]
        rcases hfr with h5 | h5
        · simp; omega
        · simp; omega
    · intro hroom
      have e1 : 0 + n * 1 = n := by omega
      rw [e1]
      refine h g cap (w.setCells g n news) ⟨by rw [List.length_append, hr.len, hm], hr.base, hroom, ?_⟩ (grownBy_setCells w g n news) (.inl rfl) (below_setCells news n w w g base (Below.refl _ _) hr.base)
      refine ⟨_, fr, heap_setCells_fr news n w g e cur fr hgb (by omega), ?_, ?_, hfr⟩
      · simp; omega
      · have hl2 : (cur.toList.take n ++ news).length = n + m := by simp; omega
        show (cur.toList.take n ++ news ++ cur.toList.drop (n + news.length)).take (n + m) = xs ++ news
        rw [List.take_append_of_le_length (by omega), List.take_of_length_le (by omega), htk]
    · intro hgr v' w' ho hg
      obtain ⟨g', cap', rfl, hb⟩ := BR.of_owns ho (by omega)
      exact h g' cap' w' (hb.mono hbase) ⟨hg.os, hg.tape, hg.output, hg.size, fun k hk _ => hg.block k hk (by simp)⟩ (.inr hb.base) ((Below.refl base w).grown hg hbase (by intro k hk; simp at hk))
end Go.Proofs.YtjobghphjkeohaaDoor
