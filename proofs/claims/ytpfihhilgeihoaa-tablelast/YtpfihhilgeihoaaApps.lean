/- What events do to rows, as mathematics; and what the document's own list of cells comes to. -/
import Derived.Test.YtpfihhilgeihoaaOrder
import Derived.Test.YtpfihhilgeihoaaEvents
namespace Go.Proofs.Ytpfihhilgeihoaa
open Go.Sort
/-- A row that is somebody's. -/
def ownB (x : Option (ByteArray × ByteArray)) (s : ByteArray) : Bool :=
  match x with
  | some p => decide (p.1 = s)
  | none => false
/-- A place that an event names. -/
def hereB (t r : ByteArray) (e : Ev) : Bool := decide (t = e.t) && decide (r = e.r)
theorem hereB_self (e : Ev) : hereB e.t e.r e = true := by simp [hereB]
theorem hereB_iff {t r : ByteArray} {e : Ev} : hereB t r e = true ↔ t = e.t ∧ r = e.r := by simp [hereB]
/-- An event that may be happens. -/
def act (e : Ev) (σ : Tab) : Tab := fun t r =>
  if e.k = 1 then (if hereB t r e = true then some (e.s, e.v) else σ t r)
  else if e.k = 2 then (if (hereB t r e && ownB (σ t r) e.s) = true then none else σ t r)
  else (if ownB (σ t r) e.s = true then none else σ t r)
def app (e : Ev) (σ : Tab) : Tab := if rightB e = true then act e σ else σ
theorem app_right {e : Ev} (h : rightB e = true) (σ : Tab) : app e σ = act e σ := if_pos h
theorem app_wrong {e : Ev} (h : rightB e = false) (σ : Tab) : app e σ = σ := if_neg (by rw [h]; decide)
theorem act_put {e : Ev} (h : e.k = 1) (σ : Tab) (t r : ByteArray) : act e σ t r = if hereB t r e = true then some (e.s, e.v) else σ t r := by unfold act; rw [if_pos h]
theorem act_del {e : Ev} (h : e.k = 2) (σ : Tab) (t r : ByteArray) : act e σ t r = if (hereB t r e && ownB (σ t r) e.s) = true then none else σ t r := by unfold act; rw [if_neg (by omega), if_pos h]
theorem act_gone {e : Ev} (h1 : e.k ≠ 1) (h2 : e.k ≠ 2) (σ : Tab) (t r : ByteArray) : act e σ t r = if ownB (σ t r) e.s = true then none else σ t r := by unfold act; rw [if_neg h1, if_neg h2]
theorem right_kind {e : Ev} (h : rightB e = true) : e.k = 1 ∨ e.k = 2 ∨ e.k = 3 := by
  unfold rightB bodyB at h
  by_cases h1 : e.k = 1
  · exact .inl h1
  · by_cases h2 : e.k = 2
    · exact .inr (.inl h2)
    · by_cases h3 : e.k = 3
      · exact .inr (.inr h3)
      · simp [h1, h2, h3] at h
theorem ownB_some (a b s : ByteArray) : ownB (some (a, b)) s = decide (a = s) := rfl
theorem ownB_none (s : ByteArray) : ownB none s = false := rfl
theorem ownB_two {x : Option (ByteArray × ByteArray)} {s s' : ByteArray} (h : ownB x s = true) (hn : s ≠ s') : ownB x s' = false := by
  cases x with
  | none => rfl
  | some p =>
    unfold ownB at h ⊢
    simp only [decide_eq_true_eq] at h
    simp [h, hn]
/-- Events of two subjects, in two tables, may come in any order. -/
theorem act_swap {e f : Ev} (hs : e.s ≠ f.s) (ht : e.k = 3 ∨ f.k = 3 ∨ e.t ≠ f.t) (he : e.k = 1 ∨ e.k = 2 ∨ e.k = 3) (hf : f.k = 1 ∨ f.k = 2 ∨ f.k = 3) (σ : Tab) : act e (act f σ) = act f (act e σ) := by
  funext t r
  have hs' := Ne.symm hs
  have hAB : e.k = 3 ∨ f.k = 3 ∨ (hereB t r e && hereB t r f) = false := by
    rcases ht with h | h | h
    · exact .inl h
    · exact .inr (.inl h)
    · refine .inr (.inr ?_)
      cases h1 : hereB t r e
      · rfl
      · cases h2 : hereB t r f
        · rfl
        · exact absurd ((hereB_iff.1 h1).1.symm.trans (hereB_iff.1 h2).1) h
  clear ht
  generalize hx : σ t r = x
  have h1 := ownB_two (x := x) (s := e.s) (s' := f.s)
  rcases he with he | he | he <;> rcases hf with hf | hf | hf
  all_goals
    first | have e1 := act_put he | have e1 := act_del he | have e1 := act_gone (e := e) (by omega) (by omega)
    first | have e2 := act_put hf | have e2 := act_del hf | have e2 := act_gone (e := f) (by omega) (by omega)
    simp only [e1, e2, hx]
    clear e1 e2 hx
    generalize hereB t r e = A at hAB ⊢
    generalize hereB t r f = B at hAB ⊢
    cases b1 : ownB x e.s <;> cases b2 : ownB x f.s <;> cases A <;> cases B <;> simp_all [ownB_some, ownB_none]
theorem app_swap {e f : Ev} (hs : e.s ≠ f.s) (ht : e.k = 3 ∨ f.k = 3 ∨ e.t ≠ f.t) (σ : Tab) : app e (app f σ) = app f (app e σ) := by
  cases he : rightB e
  · rw [app_wrong he, app_wrong he]
  · cases hf : rightB f
    · rw [app_wrong hf, app_wrong hf]
    · rw [app_right he, app_right hf, app_right hf, app_right he]
      exact act_swap hs ht (right_kind he) (right_kind hf) σ
/-- Twice is once. -/
theorem app_twice (e : Ev) (σ : Tab) : app e (app e σ) = app e σ := by
  cases he : rightB e
  · rw [app_wrong he, app_wrong he]
  · rw [app_right he, app_right he]
    funext t r
    rcases right_kind he with h | h | h
    all_goals
      first | have e1 := act_put h | have e1 := act_del h | have e1 := act_gone (e := e) (by omega) (by omega)
      simp only [e1]
      clear e1
      cases a1 : hereB t r e <;> cases b1 : ownB (σ t r) e.s <;> simp_all [ownB_none]
/-- Several, one behind the other. -/
def runs (l : List Ev) (σ : Tab) : Tab := l.foldl (fun τ e => app e τ) σ
theorem runs_nil (σ : Tab) : runs [] σ = σ := rfl
theorem runs_snoc (l : List Ev) (e : Ev) (σ : Tab) : runs (l ++ [e]) σ = app e (runs l σ) := by unfold runs; rw [List.foldl_append]; rfl
theorem runs_cons (e : Ev) (l : List Ev) (σ : Tab) : runs (e :: l) σ = runs l (app e σ) := rfl
theorem runs_swap {e : Ev} : ∀ (l : List Ev), (∀ f ∈ l, ∀ σ, app e (app f σ) = app f (app e σ)) → ∀ σ, app e (runs l σ) = runs l (app e σ)
  | [], _, _ => rfl
  | f :: l, h, σ => by
    rw [runs_cons, runs_cons, runs_swap l (fun g hg => h g (by simp [hg])), h f (by simp)]
/-- The document's list: what an event leaves of it, ahead of the sort. -/
def outB (e : Ev) (c : Cl) : Bool :=
  (decide (e.k = 1) && (decide (c.t = e.t) && decide (c.r = e.r))) || ((decide (e.k = 2) && ((decide (c.t = e.t) && decide (c.r = e.r)) && decide (c.s = e.s))) || (decide (e.k = 3) && decide (c.s = e.s)))
def leaves (e : Ev) (l : List Cl) : List Cl := l.filter (fun c => !outB e c) ++ if e.k = 1 then [⟨e.t, e.r, e.s, e.v⟩] else []
theorem Apart.sub {l m : List Cl} (h : Apart l) (hs : m.Sublist l) : Apart m := h.sublist hs
theorem leaves_apart {e : Ev} {l : List Cl} (h : Apart l) : Apart (leaves e l) := by
  unfold leaves
  refine List.pairwise_append.2 ⟨h.sub List.filter_sublist, ?_, ?_⟩
  · split
    · exact List.pairwise_singleton _ _
    · exact List.Pairwise.nil
  · intro a ha b hb hab
    split at hb
    · rename_i hk
      simp at hb
      subst hb
      have := (List.mem_filter.1 ha).2
      simp [outB, hk, hab.1, hab.2] at this
    · simp at hb
theorem leaves_mem {e : Ev} {σ : Tab} {l : List Cl} (he : e.k = 1 ∨ e.k = 2 ∨ e.k = 3) (hm : ∀ c : Cl, c ∈ l ↔ σ c.t c.r = some (c.s, c.v)) (c : Cl) : c ∈ leaves e l ↔ act e σ c.t c.r = some (c.s, c.v) := by
  obtain ⟨t, r, s, v⟩ := c
  have hm' := hm ⟨t, r, s, v⟩
  simp only at hm'
  unfold leaves
  rw [List.mem_append, List.mem_filter, hm']
  rcases he with h | h | h
  · rw [act_put h]
    simp only [h, if_true, outB]
    cases a : hereB t r e
    · have a' : (decide (t = e.t) && decide (r = e.r)) = false := a
      have a2 : ¬ (t = e.t ∧ r = e.r) := fun hh => by rw [hereB_iff.2 hh] at a; cases a
      simp only [a']
      simp
      intro h1 h2
      exact absurd ⟨h1, h2⟩ a2
    · obtain ⟨rfl, rfl⟩ := hereB_iff.1 a
      simp
      constructor
      · rintro ⟨rfl, rfl⟩; exact ⟨rfl, rfl⟩
      · rintro ⟨rfl, rfl⟩; exact ⟨rfl, rfl⟩
  · rw [act_del h]
    simp only [h, outB]
    cases a : hereB t r e
    · have a' : (decide (t = e.t) && decide (r = e.r)) = false := a
      simp only [a']
      simp
    · obtain ⟨rfl, rfl⟩ := hereB_iff.1 a
      cases hx : σ e.t e.r with
      | none => simp [ownB]
      | some p =>
        obtain ⟨p1, p2⟩ := p
        simp [ownB]
        by_cases hp : p1 = e.s
        · simp [hp]
          rintro rfl _; rfl
        · simp [hp]
          rintro rfl _; exact hp
  · rw [act_gone (by omega) (by omega)]
    simp only [h, outB]
    cases hx : σ t r with
    | none => simp [ownB]
    | some p =>
      obtain ⟨p1, p2⟩ := p
      simp [ownB]
      by_cases hp : p1 = e.s
      · simp [hp]
        rintro rfl _; rfl
      · simp [hp]
        rintro rfl _; exact hp
end Go.Proofs.Ytpfihhilgeihoaa
