/- Texts of this proof, one behind the other. -/
import Derived.Test.YtdjpghgnjcmdnaaGreatDoorProg
import Derived.DeepKeys4
import Derived.Lib.SlMapFilter
import Derived.Deep.RegionHeld3
import Derived.Deep.DrawnRows
import Derived.Deep.QuietTactic
import Derived.BigQuiet
import Derived.Test.YtdjpghgnjcmdnaaGreatDoorPart14
/- Where rows stand: a place of two names as the key of a map. -/
namespace Go.Proofs.YtdjpghgnjcmdnaaGreatDoor
open Go.RowKit Go.Maps
theorem laidOut : laidOutB Tryz.prog = true := by kernel_rfl
theorem row69 : (180 : TypeId) < Tryz.prog.types.size := of_decide_eq_true (by kernel_rfl)
theorem deep69 : Tryz.prog.keyType 180 = true := by kernel_rfl
theorem wide69 : (match Tryz.prog.underlying 180 with | some (.array _ _) | some (.struct _) => true | _ => false) = true := by rw [Tryz.underlying180]
set_option maxRecDepth 100000 in
theorem law69 : Keyed Tryz.prog 180 := Keyed.of_law (deep_law_laid laidOut (m := 2) (by omega) row69 (by kernel_rfl) wide69)
theorem cells69 : Tryz.prog.cellsOf 180 = 2 := by kernel_rfl
theorem cells9 : Tryz.prog.cellsOf 9 = 1 := by kernel_rfl
/-- What a place reads as. -/
def klit (t r : ByteArray) : Lit := .string (keyBytes [.string t.data.toList, .string r.data.toList])
/-- A struct of two texts as a key, in whichever program. -/
theorem keyOf_two {P : Program} {k n : TypeId} {f g : Field} (hk : P.underlying k = some (.struct #[f, g])) (hf : P.underlying f.type = some .string) (hg : P.underlying g.type = some .string) (hc : P.cellsOf k = 2) (cf : P.cellsOf f.type = 1) (cg : P.cellsOf g.type = 1)
    (of : f.offset = 0) (og : g.offset = 1) (nf : (f.name != "_") = true) (ng : (g.name != "_") = true) (hn : P.types.size = n + 1) (hT : P.keyType k = true) (t r : ByteArray) (ht : t.size ≤ maxLen) (hr : r.size ≤ maxLen) :
    keyOf P k (.agg #[.string t, .string r]) = some (klit t r) := by
  simp [keyOf, hk, hT, Value.formed, hc, hn, Program.keyLits, Value.cells, hf, hg, cf, cg, of, og, nf, ng, ht, hr, klit]
theorem size138 : Tryz.prog.types.size = 340 + 1 := by kernel_rfl
theorem key69 (t r : ByteArray) (ht : t.size ≤ 60) (hr : r.size ≤ 60) : keyOf Tryz.prog 180 (.agg #[.string t, .string r]) = some (klit t r) :=
  keyOf_two Tryz.underlying180 Tryz.underlying9 Tryz.underlying9 cells69 cells9 cells9 rfl rfl rfl rfl size138 deep69 t r (by unfold maxLen; omega) (by unfold maxLen; omega)
theorem lits_string {P : Program} {t : TypeId} {d : Nat} {a : Value} {L : List Lit} (ht : P.underlying t = some .string) (h : P.keyLits (d + 1) t [a] = some L) : ∃ s, a = .string s := by
  unfold Program.keyLits at h
  rw [ht] at h
  cases a <;> simp at h
  exact ⟨_, rfl⟩
theorem keyOf_two_inv {P : Program} {k n : TypeId} {f g : Field} (hk : P.underlying k = some (.struct #[f, g])) (hf : P.underlying f.type = some .string) (hg : P.underlying g.type = some .string) (hc : P.cellsOf k = 2) (cf : P.cellsOf f.type = 1) (cg : P.cellsOf g.type = 1)
    (of : f.offset = 0) (og : g.offset = 1) (hn : P.types.size = n + 1) {v : Value} {l : Lit} (h : keyOf P k v = some l) :
    ∃ p : ByteArray × ByteArray, v = .agg #[.string p.1, .string p.2] := by
  obtain ⟨xs, L, rfl, hL, _⟩ := keyOf_top (by rw [hk]) h
  obtain ⟨xs⟩ := xs
  rw [hn] at hL
  unfold Program.keyLits at hL
  rw [hk] at hL
  simp only [hc] at hL
  split at hL
  · rename_i h2
    match xs, h2.1 with
    | [a, b], _ =>
      rw [Option.map_eq_some_iff] at hL
      obtain ⟨A, hA, _⟩ := hL
      simp only [List.mapM_cons, List.mapM_nil, cf, cg, of, og, List.drop_zero, List.take_succ_cons, List.take_zero, List.drop_succ_cons] at hA
      cases h3 : P.keyLits (n + 1) f.type [a] with
      | none => rw [h3] at hA; cases hA
      | some A1 =>
        cases h4 : P.keyLits (n + 1) g.type [b] with
        | none => rw [h3, h4] at hA; cases hA
        | some A2 =>
          obtain ⟨s1, rfl⟩ := lits_string hf h3
          obtain ⟨s2, rfl⟩ := lits_string hg h4
          exact ⟨⟨s1, s2⟩, rfl⟩
  · cases hL
theorem key69_inv {v : Value} {l : Lit} (h : keyOf Tryz.prog 180 v = some l) : ∃ p : ByteArray × ByteArray, v = .agg #[.string p.1, .string p.2] :=
  keyOf_two_inv Tryz.underlying180 Tryz.underlying9 Tryz.underlying9 cells69 cells9 cells9 rfl rfl size138 h
theorem klit_inj {t r t' r' : ByteArray} (ht : t.size ≤ 60) (hr : r.size ≤ 60) (ht' : t'.size ≤ 60) (hr' : r'.size ≤ 60) (h : klit t r = klit t' r') : t = t' ∧ r = r' := by
  have k1 := key69 t r ht hr
  have k2 := key69 t' r' ht' hr'
  rw [← h] at k2
  have := law69.inj k1 k2
  simp at this
  exact this
theorem klit_key (t r : ByteArray) : WideAt.IsKeyLit (klit t r) := trivial
end Go.Proofs.YtdjpghgnjcmdnaaGreatDoor

/- What events do to rows, as mathematics; and what the document's own list of cells comes to. -/
namespace Go.Proofs.YtdjpghgnjcmdnaaGreatDoor
open Go.Sort
/-- A row that is somebody's. -/
def ownB (x : Option (ByteArray × ByteArray)) (s : ByteArray) : Bool :=
  match x with
  | some p => decide (p.1 = s)
  | none => false
/-- A place that an event names. -/
def hereB (t r : ByteArray) (e : Ev) : Bool := decide (t = e.t) && decide (r = e.r)
theorem hereB_self (e : Ev) : hereB e.t e.r e = true := by simp [hereB]
theorem hereB_iff {t r : ByteArray} {e : Ev} : hereB t r e = true ↔ t = e.t ∧ r = e.r := by simp [hereB]
/-- An event that may be happens. -/
def act (e : Ev) (σ : Tab) : Tab := fun t r =>
  if e.k = 1 then (if hereB t r e = true then some (e.s, e.v) else σ t r)
  else if e.k = 2 then (if (hereB t r e && ownB (σ t r) e.s) = true then none else σ t r)
  else (if ownB (σ t r) e.s = true then none else σ t r)
def app (e : Ev) (σ : Tab) : Tab := if rightB e = true then act e σ else σ
theorem app_right {e : Ev} (h : rightB e = true) (σ : Tab) : app e σ = act e σ := if_pos h
theorem app_wrong {e : Ev} (h : rightB e = false) (σ : Tab) : app e σ = σ := if_neg (by rw [h]; decide)
theorem act_put {e : Ev} (h : e.k = 1) (σ : Tab) (t r : ByteArray) : act e σ t r = if hereB t r e = true then some (e.s, e.v) else σ t r := by unfold act; rw [if_pos h]
theorem act_del {e : Ev} (h : e.k = 2) (σ : Tab) (t r : ByteArray) : act e σ t r = if (hereB t r e && ownB (σ t r) e.s) = true then none else σ t r := by unfold act; rw [if_neg (by omega), if_pos h]
theorem act_gone {e : Ev} (h1 : e.k ≠ 1) (h2 : e.k ≠ 2) (σ : Tab) (t r : ByteArray) : act e σ t r = if ownB (σ t r) e.s = true then none else σ t r := by unfold act; rw [if_neg h1, if_neg h2]
theorem right_kind {e : Ev} (h : rightB e = true) : e.k = 1 ∨ e.k = 2 ∨ e.k = 3 := by
  unfold rightB bodyB at h
  by_cases h1 : e.k = 1
  · exact .inl h1
  · by_cases h2 : e.k = 2
    · exact .inr (.inl h2)
    · by_cases h3 : e.k = 3
      · exact .inr (.inr h3)
      · simp [h1, h2, h3] at h
theorem ownB_some (a b s : ByteArray) : ownB (some (a, b)) s = decide (a = s) := rfl
theorem ownB_none (s : ByteArray) : ownB none s = false := rfl
theorem ownB_two {x : Option (ByteArray × ByteArray)} {s s' : ByteArray} (h : ownB x s = true) (hn : s ≠ s') : ownB x s' = false := by
  cases x with
  | none => rfl
  | some p =>
    unfold ownB at h ⊢
    simp only [decide_eq_true_eq] at h
    simp [h, hn]
/-- Events of two subjects, in two tables, may come in any order. -/
theorem act_swap {e f : Ev} (hs : e.s ≠ f.s) (ht : e.k = 3 ∨ f.k = 3 ∨ e.t ≠ f.t) (he : e.k = 1 ∨ e.k = 2 ∨ e.k = 3) (hf : f.k = 1 ∨ f.k = 2 ∨ f.k = 3) (σ : Tab) : act e (act f σ) = act f (act e σ) := by
  funext t r
  have hs' := Ne.symm hs
  have hAB : e.k = 3 ∨ f.k = 3 ∨ (hereB t r e && hereB t r f) = false := by
    rcases ht with h | h | h
    · exact .inl h
    · exact .inr (.inl h)
    · refine .inr (.inr ?_)
      cases h1 : hereB t r e
      · rfl
      · cases h2 : hereB t r f
        · rfl
        · exact absurd ((hereB_iff.1 h1).1.symm.trans (hereB_iff.1 h2).1) h
  clear ht
  generalize hx : σ t r = x
  have h1 := ownB_two (x := x) (s := e.s) (s' := f.s)
  rcases he with he | he | he <;> rcases hf with hf | hf | hf
  all_goals
    first | have e1 := act_put he | have e1 := act_del he | have e1 := act_gone (e := e) (by omega) (by omega)
    first | have e2 := act_put hf | have e2 := act_del hf | have e2 := act_gone (e := f) (by omega) (by omega)
    simp only [e1, e2, hx]
    clear e1 e2 hx
    generalize hereB t r e = A at hAB ⊢
    generalize hereB t r f = B at hAB ⊢
    cases b1 : ownB x e.s <;> cases b2 : ownB x f.s <;> cases A <;> cases B <;> simp_all [ownB_some, ownB_none]
theorem app_swap {e f : Ev} (hs : e.s ≠ f.s) (ht : e.k = 3 ∨ f.k = 3 ∨ e.t ≠ f.t) (σ : Tab) : app e (app f σ) = app f (app e σ) := by
  cases he : rightB e
  · rw [app_wrong he, app_wrong he]
  · cases hf : rightB f
    · rw [app_wrong hf, app_wrong hf]
    · rw [app_right he, app_right hf, app_right hf, app_right he]
      exact act_swap hs ht (right_kind he) (right_kind hf) σ
/-- Twice is once. -/
theorem app_twice (e : Ev) (σ : Tab) : app e (app e σ) = app e σ := by
  cases he : rightB e
  · rw [app_wrong he, app_wrong he]
  · rw [app_right he, app_right he]
    funext t r
    rcases right_kind he with h | h | h
    all_goals
      first | have e1 := act_put h | have e1 := act_del h | have e1 := act_gone (e := e) (by omega) (by omega)
      simp only [e1]
      clear e1
      cases a1 : hereB t r e <;> cases b1 : ownB (σ t r) e.s <;> simp_all [ownB_none]
/-- Several, one behind the other. -/
def runs (l : List Ev) (σ : Tab) : Tab := l.foldl (fun τ e => app e τ) σ
theorem runs_nil (σ : Tab) : runs [] σ = σ := rfl
theorem runs_snoc (l : List Ev) (e : Ev) (σ : Tab) : runs (l ++ [e]) σ = app e (runs l σ) := by unfold runs; rw [List.foldl_append]; rfl
theorem runs_cons (e : Ev) (l : List Ev) (σ : Tab) : runs (e :: l) σ = runs l (app e σ) := rfl
theorem runs_swap {e : Ev} : ∀ (l : List Ev), (∀ f ∈ l, ∀ σ, app e (app f σ) = app f (app e σ)) → ∀ σ, app e (runs l σ) = runs l (app e σ)
  | [], _, _ => rfl
  | f :: l, h, σ => by
    rw [runs_cons, runs_cons, runs_swap l (fun g hg => h g (by simp [hg])), h f (by simp)]
/-- The document's list: what an event leaves of it, ahead of the sort. -/
def outB (e : Ev) (c : Cl) : Bool :=
  (decide (e.k = 1) && (decide (c.t = e.t) && decide (c.r = e.r))) || ((decide (e.k = 2) && ((decide (c.t = e.t) && decide (c.r = e.r)) && decide (c.s = e.s))) || (decide (e.k = 3) && decide (c.s = e.s)))
def leaves (e : Ev) (l : List Cl) : List Cl := l.filter (fun c => !outB e c) ++ if e.k = 1 then [⟨e.t, e.r, e.s, e.v⟩] else []
theorem Apart.sub {l m : List Cl} (h : Apart l) (hs : m.Sublist l) : Apart m := h.sublist hs
theorem leaves_apart {e : Ev} {l : List Cl} (h : Apart l) : Apart (leaves e l) := by
  unfold leaves
  refine List.pairwise_append.2 ⟨h.sub List.filter_sublist, ?_, ?_⟩
  · split
    · exact List.pairwise_singleton _ _
    · exact List.Pairwise.nil
  · intro a ha b hb hab
    split at hb
    · rename_i hk
      simp at hb
      subst hb
      have := (List.mem_filter.1 ha).2
      simp [outB, hk, hab.1, hab.2] at this
    · simp at hb
theorem leaves_mem {e : Ev} {σ : Tab} {l : List Cl} (he : e.k = 1 ∨ e.k = 2 ∨ e.k = 3) (hm : ∀ c : Cl, c ∈ l ↔ σ c.t c.r = some (c.s, c.v)) (c : Cl) : c ∈ leaves e l ↔ act e σ c.t c.r = some (c.s, c.v) := by
  obtain ⟨t, r, s, v⟩ := c
  have hm' := hm ⟨t, r, s, v⟩
  simp only at hm'
  unfold leaves
  rw [List.mem_append, List.mem_filter, hm']
  rcases he with h | h | h
  · rw [act_put h]
    simp only [h, if_true, outB]
    cases a : hereB t r e
    · have a' : (decide (t = e.t) && decide (r = e.r)) = false := a
      have a2 : ¬ (t = e.t ∧ r = e.r) := fun hh => by rw [hereB_iff.2 hh] at a; cases a
      simp only [a']
      simp
      intro h1 h2
      exact absurd ⟨h1, h2⟩ a2
    · obtain ⟨rfl, rfl⟩ := hereB_iff.1 a
      simp
      constructor
      · rintro ⟨rfl, rfl⟩; exact ⟨rfl, rfl⟩
      · rintro ⟨rfl, rfl⟩; exact ⟨rfl, rfl⟩
  · rw [act_del h]
    simp only [h, outB]
    cases a : hereB t r e
    · have a' : (decide (t = e.t) && decide (r = e.r)) = false := a
      simp only [a']
      simp
    · obtain ⟨rfl, rfl⟩ := hereB_iff.1 a
      cases hx : σ e.t e.r with
      | none => simp [ownB]
      | some p =>
        obtain ⟨p1, p2⟩ := p
        simp [ownB]
        by_cases hp : p1 = e.s
        · simp [hp]
          rintro rfl _; rfl
        · simp [hp]
          rintro rfl _; exact hp
  · rw [act_gone (by omega) (by omega)]
    simp only [h, outB]
    cases hx : σ t r with
    | none => simp [ownB]
    | some p =>
      obtain ⟨p1, p2⟩ := p
      simp [ownB]
      by_cases hp : p1 = e.s
      · simp [hp]
        rintro rfl _; rfl
      · simp [hp]
        rintro rfl _; exact hp
end Go.Proofs.YtdjpghgnjcmdnaaGreatDoor

/- What a map of rows reads as, and what a store, a deletion, and a walk over it leave of that. -/
namespace Go.Proofs.YtdjpghgnjcmdnaaGreatDoor
open Go.RowKit Go.Maps
/-- A cell as a value, as cells of memory, and as what is read. -/
def cellV (c : Cl) : Value := .agg #[.string c.t, .string c.r, .string c.s, .string c.v]
def cellL (c : Cl) : List Value := [.string c.t, .string c.r, .string c.s, .string c.v]
def cellD (c : Cl) : DataW Unit := .agg [.lit (.string c.t.data.toList), .lit (.string c.r.data.toList), .lit (.string c.s.data.toList), .lit (.string c.v.data.toList)]
theorem cellD_inj {c d : Cl} (h : cellD c = cellD d) : c = d := by
  unfold cellD at h
  simp only [DataW.agg.injEq, List.cons.injEq, DataW.lit.injEq, Lit.string.injEq, and_true] at h
  obtain ⟨h1, h2, h3, h4⟩ := h
  cases c; cases d
  simp only at h1 h2 h3 h4
  rw [bytes_eq h1, bytes_eq h2, bytes_eq h3, bytes_eq h4]
def cellElem (v : Value) : Option (DataW Unit × List MemPlace) :=
  match v with
  | .agg cs => match cs.toList with
    | [.string t, .string r, .string s, .string v] => some (cellD ⟨t, r, s, v⟩, [])
    | _ => none
  | _ => none
theorem cellElem_mk (c : Cl) : cellElem (cellV c) = some (cellD c, []) := rfl
theorem cellElem_inv {v : Value} {y : DataW Unit × List MemPlace} (h : cellElem v = some y) : ∃ c, v = cellV c ∧ y = (cellD c, []) := by
  unfold cellElem at h
  split at h
  · rename_i cs
    split at h
    · rename_i t r s v hcs
      cases h
      exact ⟨⟨t, r, s, v⟩, by rw [← Array.toArray_toList (xs := cs), hcs]; rfl, rfl⟩
    · cases h
  · cases h
theorem cellElem_is {v : Value} {c : Cl} {ps : List MemPlace} (h : cellElem v = some (cellD c, ps)) : v = cellV c := by
  obtain ⟨d, rfl, e⟩ := cellElem_inv h
  rw [cellD_inj (Prod.mk.inj e).1]
/-- A cell that is short. -/
structure Small (c : Cl) : Prop where
  t : c.t.size ≤ 60
  r : c.r.size ≤ 60
  s : c.s.size ≤ 60
  v : c.v.size ≤ 60
/-- A map of rows. -/
def Reads (D : DataW Unit) (σ : Tab) : Prop :=
  (∀ c : Cl, σ c.t c.r = some (c.s, c.v) → Small c) ∧ ∃ es, D = .map es ∧ es.Pairwise (fun p q => p.1 ≠ q.1) ∧ ∀ p, p ∈ es ↔ ∃ c : Cl, σ c.t c.r = some (c.s, c.v) ∧ p = (klit c.t c.r, cellD c)
theorem reads0 : Reads (.map []) tab0 := ⟨fun c h => (by cases h), [], rfl, List.Pairwise.nil, fun p => ⟨fun h => by simp at h, fun ⟨c, h, _⟩ => by cases h⟩⟩
theorem Reads.isMap {D : DataW Unit} {σ : Tab} (h : Reads D σ) : IsMap D := by obtain ⟨_, es, rfl, _⟩ := h; exact ⟨es, rfl⟩
theorem Reads.there {D : DataW Unit} {σ : Tab} (h : Reads D σ) {c : Cl} (hc : σ c.t c.r = some (c.s, c.v)) : has D (klit c.t c.r) = true ∧ ∀ z, D.atKey (klit c.t c.r) z = cellD c := by
  obtain ⟨hs, es, rfl, hp, hm⟩ := h
  have hin := (hm (klit c.t c.r, cellD c)).2 ⟨c, hc, rfl⟩
  exact ⟨List.any_eq_true.2 ⟨_, hin, WideAt.sameKey_self (klit_key _ _)⟩, fun z => WideAt.atKey_mem z (klit_key _ _) hp hin⟩
theorem Reads.entry {D : DataW Unit} {σ : Tab} (h : Reads D σ) {kl : Lit} (hk : has D kl = true) : ∃ c : Cl, σ c.t c.r = some (c.s, c.v) ∧ kl = klit c.t c.r := by
  obtain ⟨hs, es, rfl, hp, hm⟩ := h
  obtain ⟨p, hin, hsame⟩ := List.any_eq_true.1 hk
  obtain ⟨c, hc, rfl⟩ := (hm p).1 hin
  exact ⟨c, hc, (WideAt.sameKey_eq hsame).symm⟩
theorem Reads.absent {D : DataW Unit} {σ : Tab} (h : Reads D σ) {t r : ByteArray} (ht : t.size ≤ 60) (hr : r.size ≤ 60) (hn : σ t r = none) : has D (klit t r) = false ∧ ∀ z, D.atKey (klit t r) z = z := by
  have h1 : has D (klit t r) = false := by
    cases hh : has D (klit t r)
    · rfl
    · obtain ⟨c, hc, e⟩ := h.entry hh
      have hs := h.1 c hc
      obtain ⟨rfl, rfl⟩ := klit_inj ht hr hs.t hs.r e
      rw [hn] at hc
      cases hc
  exact ⟨h1, fun z => atKey_of_not_has h1 z⟩
/-- A store. -/
def putC (c : Cl) (σ : Tab) : Tab := fun t r => if (decide (t = c.t) && decide (r = c.r)) = true then some (c.s, c.v) else σ t r
theorem Reads.put {D : DataW Unit} {σ : Tab} (h : Reads D σ) {c : Cl} (hc : Small c) : Reads (D.put (klit c.t c.r) (cellD c)) (putC c σ) := by
  obtain ⟨hs, es, rfl, hp, hm⟩ := h
  have hs' : ∀ d : Cl, putC c σ d.t d.r = some (d.s, d.v) → Small d := by
    intro d hd
    unfold putC at hd
    split at hd
    · rename_i e
      simp only [Bool.and_eq_true, decide_eq_true_eq] at e
      simp only [Option.some.injEq, Prod.mk.injEq] at hd
      exact ⟨e.1 ▸ hc.t, e.2 ▸ hc.r, hd.1 ▸ hc.s, hd.2 ▸ hc.v⟩
    · exact hs d hd
  refine ⟨hs', DataW.insert (klit c.t c.r, cellD c) (es.filter (ChangeMaps.notKey (klit c.t c.r))), rfl, ?_, ?_⟩
  · obtain ⟨es', he, hp'⟩ := Tidy.put (D := .map es) ⟨es, rfl, hp⟩ (klit_key c.t c.r) (cellD c)
    injection he with he
    rw [show DataW.insert (klit c.t c.r, cellD c) (es.filter (ChangeMaps.notKey (klit c.t c.r))) = es' from he]
    exact hp'
  · intro p
    rw [ChangeMaps.mem_insert_iff, List.mem_filter, hm, notKey_iff (klit_key _ _)]
    constructor
    · rintro (rfl | ⟨⟨d, hd, rfl⟩, hne⟩)
      · exact ⟨c, by simp [putC], rfl⟩
      · refine ⟨d, ?_, rfl⟩
        unfold putC
        rw [if_neg ?_]
        · exact hd
        · intro e
          simp only [Bool.and_eq_true, decide_eq_true_eq] at e
          exact hne (by rw [e.1, e.2])
    · rintro ⟨d, hd, rfl⟩
      have hsd := hs' d hd
      unfold putC at hd
      split at hd
      · rename_i e
        simp only [Bool.and_eq_true, decide_eq_true_eq] at e
        simp only [Option.some.injEq, Prod.mk.injEq] at hd
        refine .inl ?_
        obtain ⟨dt, dr, ds, dv⟩ := d
        simp only at e hd
        obtain ⟨rfl, rfl⟩ := e
        obtain ⟨rfl, rfl⟩ := hd
        rfl
      · rename_i e
        refine .inr ⟨⟨d, hd, rfl⟩, fun e' => e ?_⟩
        obtain ⟨e1, e2⟩ := klit_inj hsd.t hsd.r hc.t hc.r e'
        simp [e1, e2]
/-- A deletion. -/
def delC (t0 r0 : ByteArray) (σ : Tab) : Tab := fun t r => if (decide (t = t0) && decide (r = r0)) = true then none else σ t r
theorem Reads.del {D : DataW Unit} {σ : Tab} (h : Reads D σ) {t0 r0 : ByteArray} (ht : t0.size ≤ 60) (hr : r0.size ≤ 60) : Reads (D.del (klit t0 r0)) (delC t0 r0 σ) := by
  obtain ⟨hs, es, rfl, hp, hm⟩ := h
  have hs' : ∀ d : Cl, delC t0 r0 σ d.t d.r = some (d.s, d.v) → Small d := by
    intro d hd
    unfold delC at hd
    split at hd
    · cases hd
    · exact hs d hd
  refine ⟨hs', es.filter (ChangeMaps.notKey (klit t0 r0)), rfl, hp.filter _, ?_⟩
  intro p
  rw [List.mem_filter, hm, notKey_iff (klit_key _ _)]
  constructor
  · rintro ⟨⟨d, hd, rfl⟩, hne⟩
    refine ⟨d, ?_, rfl⟩
    unfold delC
    rw [if_neg ?_]
    · exact hd
    · intro e
      simp only [Bool.and_eq_true, decide_eq_true_eq] at e
      exact hne (by rw [e.1, e.2])
  · rintro ⟨d, hd, rfl⟩
    have hsd := hs' d hd
    unfold delC at hd
    split at hd
    · cases hd
    · rename_i e
      refine ⟨⟨d, hd, rfl⟩, fun e' => e ?_⟩
      obtain ⟨e1, e2⟩ := klit_inj hsd.t hsd.r ht hr e'
      simp [e1, e2]
/-- All of a subject's. -/
def goneC (s : ByteArray) (σ : Tab) : Tab := fun t r => if ownB (σ t r) s = true then none else σ t r
def subjD (s : ByteArray) (_ : Lit) (d : DataW Unit) : Bool :=
  match d with
  | .agg [_, _, .lit (.string l), _] => decide (l = s.data.toList)
  | _ => false
theorem subjD_cell (s : ByteArray) (k : Lit) (c : Cl) : subjD s k (cellD c) = decide (c.s = s) := by
  unfold subjD cellD
  simp only [decide_eq_decide]
  exact ⟨fun h => bytes_eq h, fun h => by rw [h]⟩
theorem Reads.gone {D : DataW Unit} {σ : Tab} (h : Reads D σ) (s : ByteArray) : Reads (Lib.deleteFuncD (subjD s) D) (goneC s σ) := by
  obtain ⟨hs, es, rfl, hp, hm⟩ := h
  refine ⟨?_, es.filter (fun p => !subjD s p.1 p.2), rfl, hp.filter _, ?_⟩
  · intro d hd
    unfold goneC at hd
    split at hd
    · cases hd
    · exact hs d hd
  · intro p
    rw [List.mem_filter, hm]
    constructor
    · rintro ⟨⟨d, hd, rfl⟩, hne⟩
      refine ⟨d, ?_, rfl⟩
      rw [subjD_cell] at hne
      unfold goneC
      rw [hd, ownB_some, if_neg (by simpa using hne)]
    · rintro ⟨d, hd, rfl⟩
      unfold goneC at hd
      split at hd
      · cases hd
      · rename_i e
        refine ⟨⟨d, hd, rfl⟩, ?_⟩
        rw [hd, ownB_some] at e
        rw [subjD_cell]
        simpa using e
/-- What events do to it. -/
theorem act_put_is {e : Ev} (h : e.k = 1) (σ : Tab) : act e σ = putC ⟨e.t, e.r, e.s, e.v⟩ σ := by
  funext t r
  rw [act_put h]
  rfl
theorem act_del_own {e : Ev} (h : e.k = 2) {σ : Tab} (ho : ownB (σ e.t e.r) e.s = true) : act e σ = delC e.t e.r σ := by
  funext t r
  rw [act_del h]
  unfold delC hereB
  cases hh : (decide (t = e.t) && decide (r = e.r))
  · simp
  · simp only [Bool.and_eq_true, decide_eq_true_eq] at hh
    rw [hh.1, hh.2, ho]
    rfl
theorem act_del_other {e : Ev} (h : e.k = 2) {σ : Tab} (ho : ownB (σ e.t e.r) e.s = false) : act e σ = σ := by
  funext t r
  rw [act_del h]
  cases hh : hereB t r e
  · simp
  · obtain ⟨rfl, rfl⟩ := hereB_iff.1 hh
    simp [ho]
theorem act_gone_is {e : Ev} (h1 : e.k ≠ 1) (h2 : e.k ≠ 2) (σ : Tab) : act e σ = goneC e.s σ := by
  funext t r
  rw [act_gone h1 h2]
  rfl
/-- Which rows a walk over the map has met, in whatever order. -/
def Got (σ : Tab) (left : Lit → Bool) (cs : List Cl) : Prop := Apart cs ∧ ∀ c : Cl, c ∈ cs ↔ (σ c.t c.r = some (c.s, c.v) ∧ left (klit c.t c.r) = false)
theorem Got.start {D : DataW Unit} {σ : Tab} (h : Reads D σ) : Got σ (has D) [] :=
  ⟨List.Pairwise.nil, fun c => ⟨fun hc => by simp at hc, fun ⟨h1, h2⟩ => by rw [(h.there h1).1] at h2; cases h2⟩⟩
theorem Got.step {D : DataW Unit} {σ : Tab} (hD : Reads D σ) {left : Lit → Bool} {cs : List Cl} (h : Got σ left cs) {c : Cl} (hc : σ c.t c.r = some (c.s, c.v)) (hl : left (klit c.t c.r) = true) :
    Got σ (fun z => left z && !z.sameKey (klit c.t c.r)) (cs ++ [c]) := by
  have hsc := hD.1 c hc
  refine ⟨List.pairwise_append.2 ⟨h.1, List.pairwise_singleton _ _, fun a ha b hb hab => ?_⟩, fun d => ?_⟩
  · simp at hb
    subst hb
    have := ((h.2 a).1 ha).2
    rw [hab.1, hab.2, hl] at this
    cases this
  · rw [List.mem_append, h.2 d, List.mem_singleton]
    show _ ↔ _ ∧ (left (klit d.t d.r) && !(klit d.t d.r).sameKey (klit c.t c.r)) = false
    constructor
    · rintro (⟨h1, h2⟩ | rfl)
      · exact ⟨h1, by rw [h2]; rfl⟩
      · exact ⟨hc, by rw [WideAt.sameKey_self (klit_key _ _)]; simp⟩
    · rintro ⟨h1, h2⟩
      cases hs : (klit d.t d.r).sameKey (klit c.t c.r)
      · rw [hs] at h2
        exact .inl ⟨h1, by simpa using h2⟩
      · have hsd := hD.1 d h1
        obtain ⟨e1, e2⟩ := klit_inj hsd.t hsd.r hsc.t hsc.r (WideAt.sameKey_eq hs)
        rw [e1, e2, hc] at h1
        simp only [Option.some.injEq, Prod.mk.injEq] at h1
        obtain ⟨dt, dr, ds, dv⟩ := d
        simp only at e1 e2 h1
        refine .inr ?_
        rw [e1, e2, ← h1.1, ← h1.2]
theorem Got.all {σ : Tab} {left : Lit → Bool} {cs : List Cl} (h : Got σ left cs) (hl : ∀ kl, left kl = false) : Apart cs ∧ ∀ c : Cl, c ∈ cs ↔ σ c.t c.r = some (c.s, c.v) :=
  ⟨h.1, fun c => by rw [h.2 c, hl]; simp⟩
end Go.Proofs.YtdjpghgnjcmdnaaGreatDoor

/- A table as it lies in memory; a row is put there. -/
namespace Go.Proofs.YtdjpghgnjcmdnaaGreatDoor
open Go.RowKit Go.Maps
attribute [local go_sem ↓] Go.wp_at_zero Go.wp_at_succ
/-- A table: a cell with a map of at most n rows, or none; what stands ahead of it in its block. -/
structure TabV (w : World) (b : Nat) (ty : TypeId) (pre : Array Value) (mo : Option Nat) (n : Nat) (σ : Tab) : Prop where
  row : HasR w b ty (pre.push (.map mo))
  none : mo = none → σ = tab0
  held : ∀ m, mo = some m → ∃ D, w.ownsMap Tryz.prog 180 cellElem m n D ∧ Reads D σ
theorem set_push (pre : Array Value) (x v : Value) : (pre.push x).setIfInBounds pre.size v = pre.push v := by
  apply Array.ext'
  simp
theorem TabV.cell {w : World} {b : Nat} {ty : TypeId} {pre : Array Value} {mo : Option Nat} {n : Nat} {σ : Tab} (h : TabV w b ty pre mo n σ) : w.cell? ⟨b, pre.size, Option.none⟩ = some (.map mo) := by
  rw [h.row.cell pre.size]
  simp
theorem TabV.free {w : World} {b : Nat} {ty : TypeId} {pre : Array Value} {mo : Option Nat} {n : Nat} {σ : Tab} (h : TabV w b ty pre mo n σ) : w.frozen? ⟨b, pre.size, Option.none⟩ = false := h.row.free pre.size
theorem TabV.set {w : World} {b : Nat} {ty : TypeId} {pre : Array Value} {mo : Option Nat} {n : Nat} {σ : Tab} (h : TabV w b ty pre mo n σ) (v : Value) : HasR (w.setCell ⟨b, pre.size, Option.none⟩ v) b ty (pre.push v) := by
  have := h.row.set pre.size v
  rw [set_push] at this
  exact this
theorem TabV.turned {w w' : World} {b : Nat} {ty : TypeId} {pre : Array Value} {mo : Option Nat} {n : Nat} {σ : Tab} {L : List Nat} (h : TabV w b ty pre mo n σ) (t : Stirred L w w') (hb : b ∉ L) (hm : ∀ m, mo = some m → m ∉ L) : TabV w' b ty pre mo n σ :=
  ⟨h.row.turned t hb, h.none, fun m e => by obtain ⟨D, o, i⟩ := h.held m e; exact ⟨D, ownsMap_turned o t (hm m e), i⟩⟩
theorem TabV.below {w w' : World} {b : Nat} {ty : TypeId} {pre : Array Value} {mo : Option Nat} {n : Nat} {σ : Tab} (h : TabV w b ty pre mo n σ) (k : Below w.heap.size w w') : TabV w' b ty pre mo n σ := h.turned (Stirred.of_below k []) (by simp) (by simp)
theorem TabV.mono {w : World} {b : Nat} {ty : TypeId} {pre : Array Value} {mo : Option Nat} {n m : Nat} {σ : Tab} (h : TabV w b ty pre mo n σ) (hm : n ≤ m) : TabV w b ty pre mo m σ :=
  ⟨h.row, h.none, fun k e => by obtain ⟨D, o, i⟩ := h.held k e; exact ⟨D, o.mono hm, i⟩⟩
theorem TabV.apart {w : World} {b m : Nat} {ty : TypeId} {pre : Array Value} {mo : Option Nat} {n : Nat} {σ : Tab} (h : TabV w b ty pre mo n σ) (e : mo = some m) : m ≠ b := by
  obtain ⟨D, ⟨es, clock, hh, _⟩, _⟩ := h.held m e
  intro e1
  have h1 := h.row
  unfold HasR at h1
  rw [e1, h1] at hh
  cases hh
/-- How a call leaves it. -/
def Upd (w w' : World) (b : Nat) (ty : TypeId) (pre : Array Value) (mo mo' : Option Nat) (n : Nat) (σ : Tab) : Prop :=
  TabV w' b ty pre mo' n σ ∧ (mo' = mo ∨ (mo = none ∧ ∃ m, mo' = some m ∧ w.heap.size ≤ m)) ∧ Stirred (b :: mo.toList) w w'
theorem nilMap (w : World) : (binOp .eql 108 (.map none) (.map none)).run Tryz.prog w = .ok (.bool true) w := by kernel_rfl
theorem aMap (m : Nat) (w : World) : (binOp .eql 108 (.map (some m)) (.map none)).run Tryz.prog w = .ok (.bool false) w := by kernel_rfl
set_option maxRecDepth 100000 in
set_option maxHeartbeats 1000000 in
theorem put_any (b : Nat) (ty : TypeId) (pre : Array Value) (mo : Option Nat) (c : Cl) (n : Nat) (σ : Tab) (w : World) (hc : Small c) (hn : n < 1000) (hV : TabV w b ty pre mo n σ) :
    Calls Tryz.prog 119 #[.pointer (some ⟨b, pre.size, none⟩), .agg #[.string c.t, .string c.r, .string c.s, .string c.v]] w fun e w' => e = .returned (.tuple #[]) ∧ ∃ mo', Upd w w' b ty pre mo mo' (n + 1) (putC c σ) := by
  have hkey := key69 c.t c.r hc.t hc.r
  have c1 : w.cell? ⟨b, pre.size, none⟩ = some (.map mo) := hV.cell
  have f1 : w.frozen? ⟨b, pre.size, none⟩ = false := hV.free
  have hb := hV.row.lt
  cases mo with
  | none =>
    have hmm := @run_makeMap Tryz.prog
    have hq := nilMap
    have hown : (((w.setCell ⟨b, pre.size, none⟩ (.map (some (w.heap.size + 1)))).alloc (.cells #[.string c.t, .string c.r, .string c.s, .string c.v] 129)).alloc (.map #[] 0)).ownsMap Tryz.prog 180 cellElem (w.heap.size + 1) 0 (.map []) := by
      have h := World.ownsMap_made ((w.setCell ⟨b, pre.size, none⟩ (.map (some (w.heap.size + 1)))).alloc (.cells #[.string c.t, .string c.r, .string c.s, .string c.v] 129)) Tryz.prog 180 cellElem
      have e : ((w.setCell ⟨b, pre.size, none⟩ (.map (some (w.heap.size + 1)))).alloc (.cells #[.string c.t, .string c.r, .string c.s, .string c.v] 129)).heap.size = w.heap.size + 1 := by simp [World.setCell]
      rw [e] at h
      exact h
    obtain ⟨w1, hrun, ho1, ht1⟩ := hown.drew.store law69 Tryz.underlying108 (by unfold maxLen; omega) hkey (cellElem_mk c)
    unfold cellV at hrun
    have Hσ := hide ((hV.none rfl) ▸ reads0.put hc)
    have HR := hide (hV.set (.map (some (w.heap.size + 1))))
    have HO := hide ho1
    have HT := hide ht1
    clear hown ho1 ht1 hV
    go_enter Tryz.func119, Tryz.ntmps119
    go_wp2
    go_region
    go_end0
    have t0 : Stirred [b] w (((w.setCell ⟨b, pre.size, none⟩ (.map (some (w.heap.size + 1)))).alloc (.cells #[.string c.t, .string c.r, .string c.s, .string c.v] 129)).alloc (.map #[] 0)).drew :=
      (Stirred.setCell w ⟨b, pre.size, none⟩ _).then_below (((Below.refl _ _).alloc (Nat.le_refl _) _).alloc (by simp) _).drew
    have t1 := Stirred.of_turned HT.out
    exact ⟨rfl, some (w.heap.size + 1), ⟨(((HR.out.alloc _).alloc _).drew).turned t1 (by simp; omega), (fun e => by cases e), (fun m e => by cases e; exact ⟨_, HO.out.mono (by omega), Hσ.out⟩)⟩,
      .inr ⟨rfl, _, rfl, by omega⟩, t0.andThen t1 (fun j hj => .inr (by simp at hj; omega))⟩
  | some m =>
    obtain ⟨D, ho, hi⟩ := hV.held m rfl
    have hq := aMap m
    obtain ⟨w1, hrun, ho1, ht1⟩ := (ho.alloc (.cells #[.string c.t, .string c.r, .string c.s, .string c.v] 129)).drew.store law69 Tryz.underlying108 (by unfold maxLen; omega) hkey (cellElem_mk c)
    unfold cellV at hrun
    have Hσ := hide (hi.put hc)
    have HR := hide hV.row
    have HO := hide ho1
    have HT := hide ht1
    have HA := hide (hV.apart rfl)
    clear ho ho1 ht1 hV hi
    go_enter Tryz.func119, Tryz.ntmps119
    go_wp2
    go_region
    go_end0
    have t0 : Stirred (b :: (some m).toList) w (w.alloc (.cells #[.string c.t, .string c.r, .string c.s, .string c.v] 129)).drew := Stirred.of_below ((Below.refl _ w).alloc (Nat.le_refl _) _).drew _
    have t1 := Stirred.of_turned HT.out
    exact ⟨rfl, some m, ⟨(HR.out.alloc _).drew.turned t1 (by simp; exact fun e => HA.out e.symm), (fun e => by cases e), (fun m' e => by cases e; exact ⟨_, HO.out, Hσ.out⟩)⟩,
      .inl rfl, t0.andThen t1 (fun j hj => .inl (by simp at hj; simp [hj]))⟩
end Go.Proofs.YtdjpghgnjcmdnaaGreatDoor
