/- Texts of this proof, one behind the other. -/
import Derived.Sort.LotA
import Derived.Lib.Bytealg
import Derived.Test.YtedcbjefkhgiiabGreatDoorRows
import Derived.DeepKeys4
import Derived.Test.YtedcbjefkhgiiabGreatDoorPart3
/- Rows as mathematics: a row's cell, the order of cells, and lists of cells that stand in order. -/
namespace Go.Proofs.YtedcbjefkhgiiabGreatDoor
open Go.Sort Go.Lib
/-- A row: its table, its name, whose it is, its value. -/
structure Cl where
  t : ByteArray
  r : ByteArray
  s : ByteArray
  v : ByteArray
def cl0 : Cl := ⟨ByteArray.empty, ByteArray.empty, ByteArray.empty, ByteArray.empty⟩
theorem bytes_eq {a b : ByteArray} (h : a.data.toList = b.data.toList) : a = b := by
  apply ByteArray.ext
  exact Array.toList_inj.1 h
/-- Which rows there are: whose, and of which value. -/
abbrev Tab := ByteArray → ByteArray → Option (ByteArray × ByteArray)
def tab0 : Tab := fun _ _ => none
/-- Texts, byte by byte. -/
def ltB (a b : ByteArray) : Bool := decide (a.data.toList < b.data.toList)
theorem ltB_irrefl (a : ByteArray) : ltB a a = false := swo_ltStr.irrefl _
theorem ltB_trans {a b c : ByteArray} (h : ltB a b = true) (k : ltB b c = true) : ltB a c = true := swo_ltStr.trans _ _ _ h k
theorem ltB_total {a b : ByteArray} (h : ltB a b = false) (k : ltB b a = false) : a = b := by
  unfold ltB at h k
  simp only [decide_eq_false_iff_not, List.not_lt] at h k
  exact bytes_eq (List.le_antisymm k h)
theorem ltB_asymm {a b : ByteArray} (h : ltB a b = true) : ltB b a = false := by
  cases hb : ltB b a
  · rfl
  · have := ltB_trans h hb
    rw [ltB_irrefl] at this
    cases this
/-- The order of cells: tables, rows. -/
def ltC (a b : Cl) : Bool := ltB a.t b.t || (decide (a.t = b.t) && ltB a.r b.r)
theorem ltC_iff (a b : Cl) : ltC a b = true ↔ ltB a.t b.t = true ∨ (a.t = b.t ∧ ltB a.r b.r = true) := by
  unfold ltC
  simp
theorem ltC_irrefl (a : Cl) : ltC a a = false := by
  unfold ltC
  simp [ltB_irrefl]
theorem ltC_trans {a b c : Cl} (h : ltC a b = true) (k : ltC b c = true) : ltC a c = true := by
  rw [ltC_iff] at h k ⊢
  rcases h with h | ⟨e, h⟩
  · rcases k with k | ⟨e', k⟩
    · exact .inl (ltB_trans h k)
    · exact .inl (e' ▸ h)
  · rcases k with k | ⟨e', k⟩
    · exact .inl (e ▸ k)
    · exact .inr ⟨e.trans e', ltB_trans h k⟩
theorem ltC_asymm {a b : Cl} (h : ltC a b = true) : ltC b a = false := by
  cases hb : ltC b a
  · rfl
  · have := ltC_trans h hb
    rw [ltC_irrefl] at this
    cases this
theorem ltC_total {a b : Cl} (h : ltC a b = false) (k : ltC b a = false) : a.t = b.t ∧ a.r = b.r := by
  unfold ltC at h k
  simp only [Bool.or_eq_false_iff] at h k
  have e := ltB_total h.1 k.1
  have h2 := h.2
  have k2 := k.2
  simp only [e, decide_true, Bool.true_and] at h2 k2
  exact ⟨e, ltB_total h2 k2⟩
theorem swo_ltC : SWO ltC where
  irrefl := ltC_irrefl
  trans _ _ _ h k := ltC_trans h k
  ntrans x y z h k := by
    cases hz : ltC x z
    · rfl
    · cases hyx : ltC y x
      · obtain ⟨e1, e2⟩ := ltC_total h hyx
        have : ltC x z = ltC y z := by unfold ltC; rw [e1, e2]
        rw [this, k] at hz
        cases hz
      · have := ltC_trans hyx hz
        rw [k] at this
        cases this
/-- What strings.Compare says, and the order. -/
theorem cmp_lt : ∀ a b : List UInt8, (compareBytes a b < 0 ↔ a < b) ∧ (compareBytes a b = 0 ↔ a = b)
  | [], [] => by simp [compareBytes]
  | [], y :: ys => by simp [compareBytes]
  | x :: xs, [] => by simp [compareBytes]
  | x :: xs, y :: ys => by
    have ih := cmp_lt xs ys
    unfold compareBytes
    by_cases h : x < y
    · have hne : x ≠ y := fun e => by subst e; exact UInt8.lt_irrefl x h
      simp [h, List.cons_lt_cons_iff, hne]
    · by_cases h' : y < x
      · have hne : x ≠ y := fun e => by subst e; exact UInt8.lt_irrefl x h'
        simp [h, h', List.cons_lt_cons_iff, hne]
      · have e : x = y := UInt8.le_antisymm (UInt8.not_lt.1 h') (UInt8.not_lt.1 h)
        subst e
        simp [h, ih]
/-- The program's Compare. -/
def cmpC (a b : Cl) : Int := if compareBytes a.t.data.toList b.t.data.toList ≠ 0 then compareBytes a.t.data.toList b.t.data.toList else compareBytes a.r.data.toList b.r.data.toList
theorem cmpC_lt (a b : Cl) : decide (cmpC a b < 0) = ltC a b := by
  obtain ⟨h1, h2⟩ := cmp_lt a.t.data.toList b.t.data.toList
  obtain ⟨h3, _⟩ := cmp_lt a.r.data.toList b.r.data.toList
  rw [Bool.eq_iff_iff, decide_eq_true_eq, ltC_iff]
  unfold cmpC ltB
  by_cases e : a.t = b.t
  · have z : compareBytes a.t.data.toList b.t.data.toList = 0 := h2.2 (by rw [e])
    rw [if_neg (by simp [z]), h3]
    constructor
    · intro h; exact .inr ⟨e, decide_eq_true h⟩
    · rintro (h | ⟨_, h⟩)
      · rw [e] at h
        have := decide_eq_true_iff.1 h
        exact absurd this (List.lt_irrefl _)
      · exact of_decide_eq_true h
  · have z : compareBytes a.t.data.toList b.t.data.toList ≠ 0 := fun h => e (bytes_eq (h2.1 h))
    rw [if_pos z, h1]
    constructor
    · intro h; exact .inl (decide_eq_true h)
    · rintro (h | ⟨h, _⟩)
      · exact of_decide_eq_true h
      · exact absurd h e
theorem compare_swap : ∀ a b : List UInt8, compareBytes a b = - compareBytes b a
  | [], [] => rfl
  | [], _ :: _ => by simp [compareBytes]
  | _ :: _, [] => by simp [compareBytes]
  | x :: xs, y :: ys => by
    have ih := compare_swap xs ys
    unfold compareBytes
    by_cases h : x < y
    · have h' : ¬ y < x := fun h' => UInt8.lt_irrefl x (UInt8.lt_trans h h')
      simp [h, h']
    · by_cases h' : y < x
      · simp [h, h']
      · simp [h, h', ih]
/-- All rows that there are, in order. -/
def InOrd (σ : Tab) (l : List Cl) : Prop := l.Pairwise (fun a b => ltC a b = true) ∧ ∀ c : Cl, c ∈ l ↔ σ c.t c.r = some (c.s, c.v)
theorem inOrd0 : InOrd tab0 [] := ⟨List.Pairwise.nil, fun c => by simp [tab0]⟩
theorem InOrd.eq {σ : Tab} {l m : List Cl} (h : InOrd σ l) (k : InOrd σ m) : l = m := by
  have nd : ∀ {l : List Cl}, InOrd σ l → l.Nodup := fun h => h.1.imp (fun {a b} hab e => by subst e; rw [ltC_irrefl] at hab; cases hab)
  refine List.Perm.eq_of_pairwise (le := fun a b => ltC a b = true) (fun a b _ _ h1 h2 => ?_) h.1 k.1 ((List.perm_ext_iff_of_nodup (nd h) (nd k)).2 fun c => by rw [h.2, k.2])
  have := ltC_asymm h1
  rw [h2] at this
  cases this
/-- Cells of which no two stand in one place. -/
def Apart (l : List Cl) : Prop := l.Pairwise (fun a b => ¬ (a.t = b.t ∧ a.r = b.r))
theorem apart_sym {a b : Cl} (h : ¬ (a.t = b.t ∧ a.r = b.r)) : ¬ (b.t = a.t ∧ b.r = a.r) := fun e => h ⟨e.1.symm, e.2.symm⟩
theorem InOrd.apart {σ : Tab} {l : List Cl} (h : InOrd σ l) : Apart l := h.1.imp (fun {a b} hab e => by
  have h1 := (ltC_iff a b).1 hab
  rcases h1 with h1 | ⟨_, h1⟩
  · rw [e.1, ltB_irrefl] at h1; cases h1
  · rw [e.2, ltB_irrefl] at h1; cases h1)
section
variable [Inhabited Cl]
theorem pairwise_sorted {d : Array Cl} (hs : SortedIn ltC 0 d.size d) : d.toList.Pairwise (fun a b => ltC b a = false) := by
  rw [List.pairwise_iff_getElem]
  intro i j hi hj hij
  have hi' : i < d.size := by simpa using hi
  have hj' : j < d.size := by simpa using hj
  have := hs i j (Nat.zero_le _) hij hj'
  rw [getElem!_pos d j hj', getElem!_pos d i hi'] at this
  simpa using this
theorem perm_of_permIn {d d' : Array Cl} (h : PermIn 0 d.size d d') : d'.toList.Perm d.toList := by
  obtain ⟨hsz, _, hperm⟩ := h
  have e1 : d'.extract 0 d.size = d' := by rw [← hsz]; exact Array.extract_size
  rw [e1, Array.extract_size] at hperm
  exact hperm
/-- What a sort leaves of cells that stand apart. -/
theorem inOrd_of_sorted {σ : Tab} {l : List Cl} {d' : Array Cl} (ha : Apart l) (hm : ∀ c : Cl, c ∈ l ↔ σ c.t c.r = some (c.s, c.v)) (hp : PermIn 0 l.toArray.size l.toArray d') (hs : SortedIn ltC 0 l.toArray.size d') : InOrd σ d'.toList := by
  have hperm := perm_of_permIn hp
  have hsz : d'.size = l.toArray.size := hp.1
  rw [← hsz] at hs
  have ha' : Apart d'.toList := (hperm.pairwise_iff (R := fun a b : Cl => ¬ (a.t = b.t ∧ a.r = b.r)) (fun {a b} h => apart_sym h)).2 ha
  refine ⟨?_, fun c => by rw [hperm.mem_iff]; simpa using hm c⟩
  exact (List.Pairwise.and ha' (pairwise_sorted hs)).imp (fun {a b} hab => by
    cases h : ltC a b
    · exact absurd (ltC_total h hab.2) hab.1
    · rfl)
end
theorem inOrd_short {σ : Tab} {l : List Cl} (hm : ∀ c : Cl, c ∈ l ↔ σ c.t c.r = some (c.s, c.v)) (hl : l.length ≤ 1) : InOrd σ l := by
  refine ⟨?_, hm⟩
  match l, hl with
  | [], _ => exact List.Pairwise.nil
  | [c], _ => exact List.pairwise_singleton _ _
end Go.Proofs.YtedcbjefkhgiiabGreatDoor

/- Where rows stand: a place of two names as the key of a map. -/
namespace Go.Proofs.YtedcbjefkhgiiabGreatDoor
open Go.RowKit Go.Maps
theorem laidOut : laidOutB Tryz.prog = true := by kernel_rfl
theorem row69 : (93 : TypeId) < Tryz.prog.types.size := of_decide_eq_true (by kernel_rfl)
theorem deep69 : Tryz.prog.keyType 93 = true := by kernel_rfl
theorem wide69 : (match Tryz.prog.underlying 93 with | some (.array _ _) | some (.struct _) => true | _ => false) = true := by rw [Tryz.underlying93]
set_option maxRecDepth 100000 in
theorem law69 : Keyed Tryz.prog 93 := Keyed.of_law (deep_law_laid laidOut (m := 2) (by omega) row69 (by kernel_rfl) wide69)
theorem cells69 : Tryz.prog.cellsOf 93 = 2 := by kernel_rfl
theorem cells9 : Tryz.prog.cellsOf 9 = 1 := by kernel_rfl
/-- What a place reads as. -/
def klit (t r : ByteArray) : Lit := .string (keyBytes [.string t.data.toList, .string r.data.toList])
/-- A struct of two texts as a key, in whichever program. -/
theorem keyOf_two {P : Program} {k n : TypeId} {f g : Field} (hk : P.underlying k = some (.struct #[f, g])) (hf : P.underlying f.type = some .string) (hg : P.underlying g.type = some .string) (hc : P.cellsOf k = 2) (cf : P.cellsOf f.type = 1) (cg : P.cellsOf g.type = 1)
    (of : f.offset = 0) (og : g.offset = 1) (nf : (f.name != "_") = true) (ng : (g.name != "_") = true) (hn : P.types.size = n + 1) (hT : P.keyType k = true) (t r : ByteArray) (ht : t.size ≤ maxLen) (hr : r.size ≤ maxLen) :
    keyOf P k (.agg #[.string t, .string r]) = some (klit t r) := by
  simp [keyOf, hk, hT, Value.formed, hc, hn, Program.keyLits, Value.cells, hf, hg, cf, cg, of, og, nf, ng, ht, hr, klit]
theorem size138 : Tryz.prog.types.size = 312 + 1 := by kernel_rfl
theorem key69 (t r : ByteArray) (ht : t.size ≤ 60) (hr : r.size ≤ 60) : keyOf Tryz.prog 93 (.agg #[.string t, .string r]) = some (klit t r) :=
  keyOf_two Tryz.underlying93 Tryz.underlying9 Tryz.underlying9 cells69 cells9 cells9 rfl rfl rfl rfl size138 deep69 t r (by unfold maxLen; omega) (by unfold maxLen; omega)
theorem lits_string {P : Program} {t : TypeId} {d : Nat} {a : Value} {L : List Lit} (ht : P.underlying t = some .string) (h : P.keyLits (d + 1) t [a] = some L) : ∃ s, a = .string s := by
  unfold Program.keyLits at h
  rw [ht] at h
  cases a <;> simp at h
  exact ⟨_, rfl⟩
theorem keyOf_two_inv {P : Program} {k n : TypeId} {f g : Field} (hk : P.underlying k = some (.struct #[f, g])) (hf : P.underlying f.type = some .string) (hg : P.underlying g.type = some .string) (hc : P.cellsOf k = 2) (cf : P.cellsOf f.type = 1) (cg : P.cellsOf g.type = 1)
    (of : f.offset = 0) (og : g.offset = 1) (hn : P.types.size = n + 1) {v : Value} {l : Lit} (h : keyOf P k v = some l) :
    ∃ p : ByteArray × ByteArray, v = .agg #[.string p.1, .string p.2] := by
  obtain ⟨xs, L, rfl, hL, _⟩ := keyOf_top (by rw [hk]) h
  obtain ⟨xs⟩ := xs
  rw [hn] at hL
  unfold Program.keyLits at hL
  rw [hk] at hL
  simp only [hc] at hL
  split at hL
  · rename_i h2
    match xs, h2.1 with
    | [a, b], _ =>
      rw [Option.map_eq_some_iff] at hL
      obtain ⟨A, hA, _⟩ := hL
      simp only [List.mapM_cons, List.mapM_nil, cf, cg, of, og, List.drop_zero, List.take_succ_cons, List.take_zero, List.drop_succ_cons] at hA
      cases h3 : P.keyLits (n + 1) f.type [a] with
      | none => rw [h3] at hA; cases hA
      | some A1 =>
        cases h4 : P.keyLits (n + 1) g.type [b] with
        | none => rw [h3, h4] at hA; cases hA
        | some A2 =>
          obtain ⟨s1, rfl⟩ := lits_string hf h3
          obtain ⟨s2, rfl⟩ := lits_string hg h4
          exact ⟨⟨s1, s2⟩, rfl⟩
  · cases hL
theorem key69_inv {v : Value} {l : Lit} (h : keyOf Tryz.prog 93 v = some l) : ∃ p : ByteArray × ByteArray, v = .agg #[.string p.1, .string p.2] :=
  keyOf_two_inv Tryz.underlying93 Tryz.underlying9 Tryz.underlying9 cells69 cells9 cells9 rfl rfl size138 h
theorem klit_inj {t r t' r' : ByteArray} (ht : t.size ≤ 60) (hr : r.size ≤ 60) (ht' : t'.size ≤ 60) (hr' : r'.size ≤ 60) (h : klit t r = klit t' r') : t = t' ∧ r = r' := by
  have k1 := key69 t r ht hr
  have k2 := key69 t' r' ht' hr'
  rw [← h] at k2
  have := law69.inj k1 k2
  simp at this
  exact this
theorem klit_key (t r : ByteArray) : WideAt.IsKeyLit (klit t r) := trivial
end Go.Proofs.YtedcbjefkhgiiabGreatDoor
