/- Texts of this proof, one behind the other. -/
import Derived.Sort.LotA
import Derived.Lib.Bytealg
import Derived.Test.YtkbaalenbpgheaaGreatDoorProg
import Derived.DeepKeys4
import Derived.Test.YtkbaalenbpgheaaGreatDoorPart6
/- What a call may turn in memory; and two vaults as they lie there: the document's and the program's. -/
namespace Go.Proofs.YtkbaalenbpgheaaGreatDoor
open Go.RowKit Go.Maps
/-- Of what was there nothing has turned but the blocks of a list. -/
structure Stirred (L : List Nat) (w w' : World) : Prop where
  os : w'.os = w.os
  tape : w'.tape = w.tape
  output : w'.output = w.output
  size : w.heap.size ≤ w'.heap.size
  block : ∀ k, k < w.heap.size → k ∉ L → w'.heap[k]? = w.heap[k]?
theorem Stirred.refl (L : List Nat) (w : World) : Stirred L w w := ⟨rfl, rfl, rfl, Nat.le_refl _, fun _ _ _ => rfl⟩
theorem Stirred.andThen {L M : List Nat} {a b c : World} (h : Stirred L a b) (k : Stirred M b c) (hM : ∀ j ∈ M, j ∈ L ∨ a.heap.size ≤ j) : Stirred L a c :=
  ⟨k.os.trans h.os, k.tape.trans h.tape, k.output.trans h.output, Nat.le_trans h.size k.size, fun i hi hn =>
    (k.block i (Nat.lt_of_lt_of_le hi h.size) (fun hm => by
      rcases hM i hm with h1 | h1
      · exact hn h1
      · omega)).trans (h.block i hi hn)⟩
theorem Stirred.mono {L M : List Nat} {a b : World} (h : Stirred L a b) (hM : ∀ j ∈ L, j ∈ M) : Stirred M a b :=
  ⟨h.os, h.tape, h.output, h.size, fun k hk hn => h.block k hk fun hl => hn (hM k hl)⟩
theorem Stirred.of_below {w w' : World} (h : Below w.heap.size w w') (L : List Nat) : Stirred L w w' := ⟨h.os, h.tape, h.output, h.size, fun k hk _ => h.block k hk⟩
theorem Stirred.of_grown {w w' : World} {b : Nat} (h : w.grownBy w' (some b)) : Stirred [b] w w' := ⟨h.os, h.tape, h.output, h.size, fun k hk hn => h.block k hk (fun e => hn (by cases e; simp))⟩
theorem Stirred.of_turned {w w' : World} {b : Nat} (h : w.mapTurned w' b) : Stirred [b] w w' := Stirred.of_grown h.grown
theorem Stirred.setCell (w : World) (a : Addr) (v : Value) : Stirred [a.block] w (w.setCell a v) := ⟨rfl, rfl, rfl, by simp [World.setCell], fun k _ hn => Below.heap_setCell _ _ _ _ (by simpa using hn)⟩
theorem Stirred.then_below {L : List Nat} {a b c : World} (h : Stirred L a b) (k : Below b.heap.size b c) : Stirred L a c := h.andThen (Stirred.of_below k []) (fun j hj => by simp at hj)
theorem Stirred.below {L : List Nat} {w w' : World} {B : Nat} (h : Stirred L w w') (hB : B ≤ w.heap.size) (hL : ∀ k ∈ L, B ≤ k) : Below B w w' :=
  ⟨h.os, h.tape, h.output, h.size, fun k hk => h.block k (by omega) (fun hm => by have := hL k hm; omega)⟩
theorem Stirred.cell {L : List Nat} {w w' : World} (h : Stirred L w w') {p : Addr} (hp : p.block < w.heap.size) (hn : p.block ∉ L) : w'.cell? p = w.cell? p := World.cell?_of_block (w := w) (h.block p.block hp hn)
theorem ownsMap_turned {P : Program} {k : TypeId} {R : Value → Option (DataW Unit × List MemPlace)} {w w' : World} {b n : Nat} {D : DataW Unit} {L : List Nat} (h : w.ownsMap P k R b n D) (t : Stirred L w w') (hb : b ∉ L) : w'.ownsMap P k R b n D := by
  have hlt := h.lt
  obtain ⟨es, clock, hh, r⟩ := h
  exact ⟨es, clock, (t.block b hlt hb).trans hh, r⟩
theorem HasR.turned {w w' : World} {b : Nat} {t : TypeId} {cs : Array Value} {L : List Nat} (h : HasR w b t cs) (k : Stirred L w w') (hb : b ∉ L) : HasR w' b t cs := by
  unfold HasR
  rw [k.block b h.lt hb]
  exact h
/-- A subject's key of a number. -/
def keyB (sec s : ByteArray) (n : Nat) : ByteArray := ⟨(sha (markB 118 [sec, s, ⟨(num8 n).toArray⟩]).data.toList).toArray⟩
def keyL (sec : ByteArray) (l : List UInt8) (n : Nat) : List UInt8 := (keyB sec ⟨l.toArray⟩ n).data.toList
theorem keyB_size (sec s : ByteArray) (n : Nat) : (keyB sec s n).size = 32 := by
  show (sha (markB 118 [sec, s, ⟨(num8 n).toArray⟩]).data.toList).length = 32
  unfold sha stBytes
  rfl
theorem keyL_ne (sec : ByteArray) (l : List UInt8) (n : Nat) : keyL sec l n ≠ [] := by
  intro h
  have h1 : (keyL sec l n).length = 32 := by
    have := keyB_size sec ⟨l.toArray⟩ n
    unfold keyL
    rw [Array.length_toList]
    exact this
  rw [h] at h1
  simp at h1
theorem bytes_back (s : ByteArray) : (⟨s.data.toList.toArray⟩ : ByteArray) = s := by
  apply ByteArray.ext
  simp
/-- The last key, if it is there; else nothing. -/
def lastB (sec : ByteArray) (σ : Kept) (s : ByteArray) : ByteArray := if (σ s.data.toList).2 then keyB sec s (σ s.data.toList).1 else ByteArray.empty
theorem lastB_is (sec : ByteArray) (σ : Kept) (s : ByteArray) : (⟨(keyOr (keyL sec) σ s.data.toList).toArray⟩ : ByteArray) = lastB sec σ s := by
  unfold keyOr lastB keyL
  split
  · rw [bytes_back s, bytes_back]
  · rfl
theorem lastB_none {sec : ByteArray} {σ : Kept} {s : ByteArray} (h : (σ s.data.toList).2 = false) : lastB sec σ s = ByteArray.empty := by unfold lastB; rw [h]; rfl
theorem lastB_held {sec : ByteArray} {σ : Kept} {s : ByteArray} (h : (σ s.data.toList).2 = true) : lastB sec σ s = keyB sec s (σ s.data.toList).1 := by unfold lastB; rw [h]; rfl
theorem law9 : Keyed Tryz.prog 9 := string_keyed Tryz.underlying9
theorem key9 (s : ByteArray) (h : s.size ≤ 60) : keyOf Tryz.prog 9 (.string s) = some (.string s.data.toList) := WideMaps.keyOf_string_mk Tryz.underlying9 (by unfold maxLen; omega)
theorem zero3 (w : World) : (zeroValue 3).run Tryz.prog w = .ok (.int .i64 0) w := by kernel_rfl
theorem zero4 (w : World) : (zeroValue 4).run Tryz.prog w = .ok (.bool false) w := by kernel_rfl
theorem zero107 (w : World) : (zeroValue 103).run Tryz.prog w = .ok (.agg #[.int .i64 0, .string ByteArray.empty]) w := by kernel_rfl
/-- The program's vault. -/
structure ProgV (w : World) (b : Nat) (mo : Option Nat) (sec : ByteArray) (n : Nat) (σ : Kept) : Prop where
  row : HasR w b 101 #[.string sec, .map mo]
  none : mo = none → σ = kept0
  held : ∀ m, mo = some m → ∃ D, w.ownsMap Tryz.prog 9 holdElem m n D ∧ HeldIs (keyL sec) D σ
theorem ProgV.turned {w w' : World} {b : Nat} {mo : Option Nat} {sec : ByteArray} {n : Nat} {σ : Kept} {L : List Nat} (h : ProgV w b mo sec n σ) (t : Stirred L w w') (hb : b ∉ L) (hm : ∀ m, mo = some m → m ∉ L) : ProgV w' b mo sec n σ :=
  ⟨h.row.turned t hb, h.none, fun m e => by obtain ⟨D, o, i⟩ := h.held m e; exact ⟨D, ownsMap_turned o t (hm m e), i⟩⟩
theorem ProgV.below {w w' : World} {b : Nat} {mo : Option Nat} {sec : ByteArray} {n : Nat} {σ : Kept} (h : ProgV w b mo sec n σ) (k : Below w.heap.size w w') : ProgV w' b mo sec n σ := h.turned (Stirred.of_below k []) (by simp) (by simp)
theorem ProgV.apart {w : World} {b m : Nat} {mo : Option Nat} {sec : ByteArray} {n : Nat} {σ : Kept} (h : ProgV w b mo sec n σ) (e : mo = some m) : m ≠ b := by
  obtain ⟨D, ⟨es, clock, hh, _⟩, _⟩ := h.held m e
  intro e1
  have h1 := h.row
  unfold HasR at h1
  rw [e1, h1] at hh
  cases hh
end Go.Proofs.YtkbaalenbpgheaaGreatDoor

/- Rows as mathematics: a row's cell, the order of cells, and lists of cells that stand in order. -/
namespace Go.Proofs.YtkbaalenbpgheaaGreatDoor
open Go.Sort Go.Lib
/-- A row: its table, its name, whose it is, its value. -/
structure Cl where
  t : ByteArray
  r : ByteArray
  s : ByteArray
  v : ByteArray
def cl0 : Cl := ⟨ByteArray.empty, ByteArray.empty, ByteArray.empty, ByteArray.empty⟩
theorem bytes_eq {a b : ByteArray} (h : a.data.toList = b.data.toList) : a = b := by
  apply ByteArray.ext
  exact Array.toList_inj.1 h
/-- Which rows there are: whose, and of which value. -/
abbrev Tab := ByteArray → ByteArray → Option (ByteArray × ByteArray)
def tab0 : Tab := fun _ _ => none
/-- Texts, byte by byte. -/
def ltB (a b : ByteArray) : Bool := decide (a.data.toList < b.data.toList)
theorem ltB_irrefl (a : ByteArray) : ltB a a = false := swo_ltStr.irrefl _
theorem ltB_trans {a b c : ByteArray} (h : ltB a b = true) (k : ltB b c = true) : ltB a c = true := swo_ltStr.trans _ _ _ h k
theorem ltB_total {a b : ByteArray} (h : ltB a b = false) (k : ltB b a = false) : a = b := by
  unfold ltB at h k
  simp only [decide_eq_false_iff_not, List.not_lt] at h k
  exact bytes_eq (List.le_antisymm k h)
theorem ltB_asymm {a b : ByteArray} (h : ltB a b = true) : ltB b a = false := by
  cases hb : ltB b a
  · rfl
  · have := ltB_trans h hb
    rw [ltB_irrefl] at this
    cases this
/-- The order of cells: tables, rows. -/
def ltC (a b : Cl) : Bool := ltB a.t b.t || (decide (a.t = b.t) && ltB a.r b.r)
theorem ltC_iff (a b : Cl) : ltC a b = true ↔ ltB a.t b.t = true ∨ (a.t = b.t ∧ ltB a.r b.r = true) := by
  unfold ltC
  simp
theorem ltC_irrefl (a : Cl) : ltC a a = false := by
  unfold ltC
  simp [ltB_irrefl]
theorem ltC_trans {a b c : Cl} (h : ltC a b = true) (k : ltC b c = true) : ltC a c = true := by
  rw [ltC_iff] at h k ⊢
  rcases h with h | ⟨e, h⟩
  · rcases k with k | ⟨e', k⟩
    · exact .inl (ltB_trans h k)
    · exact .inl (e' ▸ h)
  · rcases k with k | ⟨e', k⟩
    · exact .inl (e ▸ k)
    · exact .inr ⟨e.trans e', ltB_trans h k⟩
theorem ltC_asymm {a b : Cl} (h : ltC a b = true) : ltC b a = false := by
  cases hb : ltC b a
  · rfl
  · have := ltC_trans h hb
    rw [ltC_irrefl] at this
    cases this
theorem ltC_total {a b : Cl} (h : ltC a b = false) (k : ltC b a = false) : a.t = b.t ∧ a.r = b.r := by
  unfold ltC at h k
  simp only [Bool.or_eq_false_iff] at h k
  have e := ltB_total h.1 k.1
  have h2 := h.2
  have k2 := k.2
  simp only [e, decide_true, Bool.true_and] at h2 k2
  exact ⟨e, ltB_total h2 k2⟩
theorem swo_ltC : SWO ltC where
  irrefl := ltC_irrefl
  trans _ _ _ h k := ltC_trans h k
  ntrans x y z h k := by
    cases hz : ltC x z
    · rfl
    · cases hyx : ltC y x
      · obtain ⟨e1, e2⟩ := ltC_total h hyx
        have : ltC x z = ltC y z := by unfold ltC; rw [e1, e2]
        rw [this, k] at hz
        cases hz
      · have := ltC_trans hyx hz
        rw [k] at this
        cases this
/-- What strings.Compare says, and the order. -/
theorem cmp_lt : ∀ a b : List UInt8, (compareBytes a b < 0 ↔ a < b) ∧ (compareBytes a b = 0 ↔ a = b)
  | [], [] => by simp [compareBytes]
  | [], y :: ys => by simp [compareBytes]
  | x :: xs, [] => by simp [compareBytes]
  | x :: xs, y :: ys => by
    have ih := cmp_lt xs ys
    unfold compareBytes
    by_cases h : x < y
    · have hne : x ≠ y := fun e => by subst e; exact UInt8.lt_irrefl x h
      simp [h, List.cons_lt_cons_iff, hne]
    · by_cases h' : y < x
      · have hne : x ≠ y := fun e => by subst e; exact UInt8.lt_irrefl x h'
        simp [h, h', List.cons_lt_cons_iff, hne]
      · have e : x = y := UInt8.le_antisymm (UInt8.not_lt.1 h') (UInt8.not_lt.1 h)
        subst e
        simp [h, ih]
/-- The program's Compare. -/
def cmpC (a b : Cl) : Int := if compareBytes a.t.data.toList b.t.data.toList ≠ 0 then compareBytes a.t.data.toList b.t.data.toList else compareBytes a.r.data.toList b.r.data.toList
theorem cmpC_lt (a b : Cl) : decide (cmpC a b < 0) = ltC a b := by
  obtain ⟨h1, h2⟩ := cmp_lt a.t.data.toList b.t.data.toList
  obtain ⟨h3, _⟩ := cmp_lt a.r.data.toList b.r.data.toList
  rw [Bool.eq_iff_iff, decide_eq_true_eq, ltC_iff]
  unfold cmpC ltB
  by_cases e : a.t = b.t
  · have z : compareBytes a.t.data.toList b.t.data.toList = 0 := h2.2 (by rw [e])
    rw [if_neg (by simp [z]), h3]
    constructor
    · intro h; exact .inr ⟨e, decide_eq_true h⟩
    · rintro (h | ⟨_, h⟩)
      · rw [e] at h
        have := decide_eq_true_iff.1 h
        exact absurd this (List.lt_irrefl _)
      · exact of_decide_eq_true h
  · have z : compareBytes a.t.data.toList b.t.data.toList ≠ 0 := fun h => e (bytes_eq (h2.1 h))
    rw [if_pos z, h1]
    constructor
    · intro h; exact .inl (decide_eq_true h)
    · rintro (h | ⟨h, _⟩)
      · exact of_decide_eq_true h
      · exact absurd h e
theorem compare_swap : ∀ a b : List UInt8, compareBytes a b = - compareBytes b a
  | [], [] => rfl
  | [], _ :: _ => by simp [compareBytes]
  | _ :: _, [] => by simp [compareBytes]
  | x :: xs, y :: ys => by
    have ih := compare_swap xs ys
    unfold compareBytes
    by_cases h : x < y
    · have h' : ¬ y < x := fun h' => UInt8.lt_irrefl x (UInt8.lt_trans h h')
      simp [h, h']
    · by_cases h' : y < x
      · simp [h, h']
      · simp [h, h', ih]
/-- All rows that there are, in order. -/
def InOrd (σ : Tab) (l : List Cl) : Prop := l.Pairwise (fun a b => ltC a b = true) ∧ ∀ c : Cl, c ∈ l ↔ σ c.t c.r = some (c.s, c.v)
theorem inOrd0 : InOrd tab0 [] := ⟨List.Pairwise.nil, fun c => by simp [tab0]⟩
theorem InOrd.eq {σ : Tab} {l m : List Cl} (h : InOrd σ l) (k : InOrd σ m) : l = m := by
  have nd : ∀ {l : List Cl}, InOrd σ l → l.Nodup := fun h => h.1.imp (fun {a b} hab e => by subst e; rw [ltC_irrefl] at hab; cases hab)
  refine List.Perm.eq_of_pairwise (le := fun a b => ltC a b = true) (fun a b _ _ h1 h2 => ?_) h.1 k.1 ((List.perm_ext_iff_of_nodup (nd h) (nd k)).2 fun c => by rw [h.2, k.2])
  have := ltC_asymm h1
  rw [h2] at this
  cases this
/-- Cells of which no two stand in one place. -/
def Apart (l : List Cl) : Prop := l.Pairwise (fun a b => ¬ (a.t = b.t ∧ a.r = b.r))
theorem apart_sym {a b : Cl} (h : ¬ (a.t = b.t ∧ a.r = b.r)) : ¬ (b.t = a.t ∧ b.r = a.r) := fun e => h ⟨e.1.symm, e.2.symm⟩
theorem InOrd.apart {σ : Tab} {l : List Cl} (h : InOrd σ l) : Apart l := h.1.imp (fun {a b} hab e => by
  have h1 := (ltC_iff a b).1 hab
  rcases h1 with h1 | ⟨_, h1⟩
  · rw [e.1, ltB_irrefl] at h1; cases h1
  · rw [e.2, ltB_irrefl] at h1; cases h1)
section
variable [Inhabited Cl]
theorem pairwise_sorted {d : Array Cl} (hs : SortedIn ltC 0 d.size d) : d.toList.Pairwise (fun a b => ltC b a = false) := by
  rw [List.pairwise_iff_getElem]
  intro i j hi hj hij
  have hi' : i < d.size := by simpa using hi
  have hj' : j < d.size := by simpa using hj
  have := hs i j (Nat.zero_le _) hij hj'
  rw [getElem!_pos d j hj', getElem!_pos d i hi'] at this
  simpa using this
theorem perm_of_permIn {d d' : Array Cl} (h : PermIn 0 d.size d d') : d'.toList.Perm d.toList := by
  obtain ⟨hsz, _, hperm⟩ := h
  have e1 : d'.extract 0 d.size = d' := by rw [← hsz]; exact Array.extract_size
  rw [e1, Array.extract_size] at hperm
  exact hperm
/-- What a sort leaves of cells that stand apart. -/
theorem inOrd_of_sorted {σ : Tab} {l : List Cl} {d' : Array Cl} (ha : Apart l) (hm : ∀ c : Cl, c ∈ l ↔ σ c.t c.r = some (c.s, c.v)) (hp : PermIn 0 l.toArray.size l.toArray d') (hs : SortedIn ltC 0 l.toArray.size d') : InOrd σ d'.toList := by
  have hperm := perm_of_permIn hp
  have hsz : d'.size = l.toArray.size := hp.1
  rw [← hsz] at hs
  have ha' : Apart d'.toList := (hperm.pairwise_iff (R := fun a b : Cl => ¬ (a.t = b.t ∧ a.r = b.r)) (fun {a b} h => apart_sym h)).2 ha
  refine ⟨?_, fun c => by rw [hperm.mem_iff]; simpa using hm c⟩
  exact (List.Pairwise.and ha' (pairwise_sorted hs)).imp (fun {a b} hab => by
    cases h : ltC a b
    · exact absurd (ltC_total h hab.2) hab.1
    · rfl)
end
theorem inOrd_short {σ : Tab} {l : List Cl} (hm : ∀ c : Cl, c ∈ l ↔ σ c.t c.r = some (c.s, c.v)) (hl : l.length ≤ 1) : InOrd σ l := by
  refine ⟨?_, hm⟩
  match l, hl with
  | [], _ => exact List.Pairwise.nil
  | [c], _ => exact List.pairwise_singleton _ _
end Go.Proofs.YtkbaalenbpgheaaGreatDoor

/- Where rows stand: a place of two names as the key of a map. -/
namespace Go.Proofs.YtkbaalenbpgheaaGreatDoor
open Go.RowKit Go.Maps
theorem laidOut : laidOutB Tryz.prog = true := by kernel_rfl
theorem row69 : (133 : TypeId) < Tryz.prog.types.size := of_decide_eq_true (by kernel_rfl)
theorem deep69 : Tryz.prog.keyType 133 = true := by kernel_rfl
theorem wide69 : (match Tryz.prog.underlying 133 with | some (.array _ _) | some (.struct _) => true | _ => false) = true := by rw [Tryz.underlying133]
set_option maxRecDepth 100000 in
theorem law69 : Keyed Tryz.prog 133 := Keyed.of_law (deep_law_laid laidOut (m := 2) (by omega) row69 (by kernel_rfl) wide69)
theorem cells69 : Tryz.prog.cellsOf 133 = 2 := by kernel_rfl
theorem cells9 : Tryz.prog.cellsOf 9 = 1 := by kernel_rfl
/-- What a place reads as. -/
def klit (t r : ByteArray) : Lit := .string (keyBytes [.string t.data.toList, .string r.data.toList])
/-- A struct of two texts as a key, in whichever program. -/
theorem keyOf_two {P : Program} {k n : TypeId} {f g : Field} (hk : P.underlying k = some (.struct #[f, g])) (hf : P.underlying f.type = some .string) (hg : P.underlying g.type = some .string) (hc : P.cellsOf k = 2) (cf : P.cellsOf f.type = 1) (cg : P.cellsOf g.type = 1)
    (of : f.offset = 0) (og : g.offset = 1) (nf : (f.name != "_") = true) (ng : (g.name != "_") = true) (hn : P.types.size = n + 1) (hT : P.keyType k = true) (t r : ByteArray) (ht : t.size ≤ maxLen) (hr : r.size ≤ maxLen) :
    keyOf P k (.agg #[.string t, .string r]) = some (klit t r) := by
  simp [keyOf, hk, hT, Value.formed, hc, hn, Program.keyLits, Value.cells, hf, hg, cf, cg, of, og, nf, ng, ht, hr, klit]
theorem size138 : Tryz.prog.types.size = 309 + 1 := by kernel_rfl
theorem key69 (t r : ByteArray) (ht : t.size ≤ 60) (hr : r.size ≤ 60) : keyOf Tryz.prog 133 (.agg #[.string t, .string r]) = some (klit t r) :=
  keyOf_two Tryz.underlying133 Tryz.underlying9 Tryz.underlying9 cells69 cells9 cells9 rfl rfl rfl rfl size138 deep69 t r (by unfold maxLen; omega) (by unfold maxLen; omega)
theorem lits_string {P : Program} {t : TypeId} {d : Nat} {a : Value} {L : List Lit} (ht : P.underlying t = some .string) (h : P.keyLits (d + 1) t [a] = some L) : ∃ s, a = .string s := by
  unfold Program.keyLits at h
  rw [ht] at h
  cases a <;> simp at h
  exact ⟨_, rfl⟩
theorem keyOf_two_inv {P : Program} {k n : TypeId} {f g : Field} (hk : P.underlying k = some (.struct #[f, g])) (hf : P.underlying f.type = some .string) (hg : P.underlying g.type = some .string) (hc : P.cellsOf k = 2) (cf : P.cellsOf f.type = 1) (cg : P.cellsOf g.type = 1)
    (of : f.offset = 0) (og : g.offset = 1) (hn : P.types.size = n + 1) {v : Value} {l : Lit} (h : keyOf P k v = some l) :
    ∃ p : ByteArray × ByteArray, v = .agg #[.string p.1, .string p.2] := by
  obtain ⟨xs, L, rfl, hL, _⟩ := keyOf_top (by rw [hk]) h
  obtain ⟨xs⟩ := xs
  rw [hn] at hL
  unfold Program.keyLits at hL
  rw [hk] at hL
  simp only [hc] at hL
  split at hL
  · rename_i h2
    match xs, h2.1 with
    | [a, b], _ =>
      rw [Option.map_eq_some_iff] at hL
      obtain ⟨A, hA, _⟩ := hL
      simp only [List.mapM_cons, List.mapM_nil, cf, cg, of, og, List.drop_zero, List.take_succ_cons, List.take_zero, List.drop_succ_cons] at hA
      cases h3 : P.keyLits (n + 1) f.type [a] with
      | none => rw [h3] at hA; cases hA
      | some A1 =>
        cases h4 : P.keyLits (n + 1) g.type [b] with
        | none => rw [h3, h4] at hA; cases hA
        | some A2 =>
          obtain ⟨s1, rfl⟩ := lits_string hf h3
          obtain ⟨s2, rfl⟩ := lits_string hg h4
          exact ⟨⟨s1, s2⟩, rfl⟩
  · cases hL
theorem key69_inv {v : Value} {l : Lit} (h : keyOf Tryz.prog 133 v = some l) : ∃ p : ByteArray × ByteArray, v = .agg #[.string p.1, .string p.2] :=
  keyOf_two_inv Tryz.underlying133 Tryz.underlying9 Tryz.underlying9 cells69 cells9 cells9 rfl rfl size138 h
theorem klit_inj {t r t' r' : ByteArray} (ht : t.size ≤ 60) (hr : r.size ≤ 60) (ht' : t'.size ≤ 60) (hr' : r'.size ≤ 60) (h : klit t r = klit t' r') : t = t' ∧ r = r' := by
  have k1 := key69 t r ht hr
  have k2 := key69 t' r' ht' hr'
  rw [← h] at k2
  have := law69.inj k1 k2
  simp at this
  exact this
theorem klit_key (t r : ByteArray) : WideAt.IsKeyLit (klit t r) := trivial
end Go.Proofs.YtkbaalenbpgheaaGreatDoor
