/- Texts of this proof, one behind the other. -/
import Derived.WalkKit
import Derived.WalkSpells
import Derived.WalkLawsBesides
import Derived.Deep.RegionHeld3
import Derived.Deep.DrawnRows
import Derived.Deep.QuietTactic
import Derived.BigQuiet
import Derived.Lib.SplitLaws
import Derived.Lib.Strings
import Derived.Test.YtdjpghgnjcmdnaaGreatDoorPart7
/- A session's text as lines, and what comes of lines one behind the other: the answers to the first ones are the beginning of the answers to all. -/
namespace Go.Proofs.YtdjpghgnjcmdnaaGreatDoor
/-- A text cut at line feeds. -/
def cutN : List UInt8 → List (List UInt8)
  | [] => [[]]
  | c :: l => if c = 10 then [] :: cutN l else match cutN l with
    | [] => [[c]]
    | x :: xs => (c :: x) :: xs
theorem cutN_ne : ∀ l : List UInt8, cutN l ≠ []
  | [] => by simp [cutN]
  | c :: l => by
    unfold cutN
    split
    · simp
    · split <;> simp
theorem cutN_nl (l : List UInt8) : cutN (10 :: l) = [] :: cutN l := by
  rw [cutN]
  rfl
theorem cutN_cons {c : UInt8} (h : c ≠ 10) (l x : List UInt8) (xs : List (List UInt8)) (e : cutN l = x :: xs) : cutN (c :: l) = (c :: x) :: xs := by
  rw [cutN, if_neg h, e]
theorem cutN_app : ∀ a b : List UInt8, cutN (a ++ 10 :: b) = cutN a ++ cutN b
  | [], b => cutN_nl b
  | c :: a, b => by
    have ih := cutN_app a b
    by_cases h : c = 10
    · subst h
      rw [List.cons_append, cutN_nl, cutN_nl, ih]
      rfl
    · cases e : cutN a with
      | nil => exact absurd e (cutN_ne a)
      | cons x xs =>
        rw [e, List.cons_append] at ih
        rw [List.cons_append, cutN_cons h _ _ _ ih, cutN_cons h _ _ _ e]
        rfl
/-- One line feed at the end is left out. -/
def trimN (l : List UInt8) : List UInt8 := if l.getLast? = some 10 then l.dropLast else l
def linesN (l : List UInt8) : List (List UInt8) := cutN (trimN l)
theorem trimN_end (a : List UInt8) : trimN (a ++ [10]) = a := by
  unfold trimN
  rw [if_pos (by simp)]
  simp
theorem linesN_end (a : List UInt8) : linesN (a ++ [10]) = cutN a := by
  unfold linesN
  rw [trimN_end]
theorem linesN_more (a b : List UInt8) : ∃ more, linesN (a ++ 10 :: b) = cutN a ++ more := by
  cases hb : b with
  | nil => exact ⟨[], by rw [List.append_nil]; exact linesN_end a⟩
  | cons c l =>
    rw [← hb]
    have hne : b ≠ [] := by rw [hb]; simp
    have e : trimN (a ++ 10 :: b) = a ++ 10 :: trimN b := by
      unfold trimN
      have h1 : (a ++ 10 :: b).getLast? = b.getLast? := by
        rw [List.getLast?_append, List.getLast?_cons]
        cases h : b.getLast? with
        | none => exact absurd (List.getLast?_eq_none_iff.1 h) hne
        | some x => simp
      rw [h1]
      split
      · rw [List.dropLast_append_of_ne_nil (by simp)]
        rw [List.dropLast_cons_of_ne_nil hne]
      · rfl
    refine ⟨cutN (trimN b), ?_⟩
    unfold linesN
    rw [e, cutN_app]
/-- Lines that are answered one behind the other: the answers, each with a line feed behind it. -/
def RunsTo {S : Type} (Ans : S → List UInt8 → List UInt8 → S → Prop) : S → List (List UInt8) → List UInt8 → S → Prop
  | s, [], out, t => out = [] ∧ t = s
  | s, l :: ls, out, t => ∃ o s' r, Ans s l o s' ∧ RunsTo Ans s' ls r t ∧ out = o ++ 10 :: r
theorem RunsTo.none {S : Type} {Ans : S → List UInt8 → List UInt8 → S → Prop} (s : S) : RunsTo Ans s [] [] s := ⟨rfl, rfl⟩
theorem RunsTo.snoc {S : Type} {Ans : S → List UInt8 → List UInt8 → S → Prop} : ∀ {xs : List (List UInt8)} {s t u : S} {out l o : List UInt8}, RunsTo Ans s xs out t → Ans t l o u → RunsTo Ans s (xs ++ [l]) (out ++ (o ++ [10])) u
  | [], s, t, u, out, l, o, h, k => by
    obtain ⟨rfl, rfl⟩ := h
    exact ⟨o, u, [], k, ⟨rfl, rfl⟩, by simp⟩
  | x :: xs, s, t, u, out, l, o, h, k => by
    obtain ⟨o1, s1, r1, h1, h2, rfl⟩ := h
    exact ⟨o1, s1, r1 ++ (o ++ [10]), h1, RunsTo.snoc h2 k, by simp⟩
theorem RunsTo.split {S : Type} {Ans : S → List UInt8 → List UInt8 → S → Prop} : ∀ {xs ys : List (List UInt8)} {s u : S} {out : List UInt8}, RunsTo Ans s (xs ++ ys) out u → ∃ o1 t o2, RunsTo Ans s xs o1 t ∧ out = o1 ++ o2
  | [], ys, s, u, out, _ => ⟨[], s, out, ⟨rfl, rfl⟩, rfl⟩
  | x :: xs, ys, s, u, out, h => by
    obtain ⟨o1, s1, r1, h1, h2, rfl⟩ := h
    obtain ⟨q1, t, q2, h3, rfl⟩ := RunsTo.split (xs := xs) h2
    exact ⟨o1 ++ 10 :: q1, t, q2, ⟨o1, s1, q1, h1, h3, rfl⟩, by simp⟩
theorem RunsTo.eq {S : Type} {Ans : S → List UInt8 → List UInt8 → S → Prop} (hd : ∀ s l o s' o' s'', Ans s l o s' → Ans s l o' s'' → o = o' ∧ s' = s'') : ∀ {xs : List (List UInt8)} {s t t' : S} {out out' : List UInt8}, RunsTo Ans s xs out t → RunsTo Ans s xs out' t' → out = out' ∧ t = t'
  | [], s, t, t', out, out', h, k => by
    obtain ⟨rfl, rfl⟩ := h
    obtain ⟨rfl, rfl⟩ := k
    exact ⟨rfl, rfl⟩
  | x :: xs, s, t, t', out, out', h, k => by
    obtain ⟨o1, s1, r1, h1, h2, rfl⟩ := h
    obtain ⟨o2, s2, r2, k1, k2, rfl⟩ := k
    obtain ⟨rfl, rfl⟩ := hd _ _ _ _ _ _ h1 k1
    obtain ⟨rfl, rfl⟩ := RunsTo.eq hd h2 k2
    exact ⟨rfl, rfl⟩
/-- The answers to the first lines are the beginning of the answers to all. -/
theorem RunsTo.begins {S : Type} {Ans : S → List UInt8 → List UInt8 → S → Prop} (hd : ∀ s l o s' o' s'', Ans s l o s' → Ans s l o' s'' → o = o' ∧ s' = s'') {a b : List UInt8} {s t u : S} {x y : List UInt8} (h : RunsTo Ans s (linesN (a ++ [10])) x t) (k : RunsTo Ans s (linesN (a ++ 10 :: b)) y u) : ∃ z, y = x ++ z := by
  obtain ⟨more, hm⟩ := linesN_more a b
  rw [hm] at k
  rw [linesN_end] at h
  obtain ⟨o1, t1, o2, h1, rfl⟩ := k.split
  obtain ⟨rfl, _⟩ := RunsTo.eq hd h h1
  exact ⟨o2, rfl⟩
end Go.Proofs.YtdjpghgnjcmdnaaGreatDoor

/- The document's own test of bounds. -/
namespace Go.Proofs.YtdjpghgnjcmdnaaGreatDoor
open Go.RowKit
end Go.Proofs.YtdjpghgnjcmdnaaGreatDoor

/- Who may be called so: the program's own Name and the document's come to one answer. -/
namespace Go.Proofs.YtdjpghgnjcmdnaaGreatDoor
open Go.RowKit
/-- A letter; a digit. -/
def letB (c : UInt8) : Bool := decide (97 ≤ c.toNat) && decide (c.toNat ≤ 122)
def digB (c : UInt8) : Bool := decide (48 ≤ c.toNat) && decide (c.toNat ≤ 57)
/-- What may stand at a place of a name. -/
def okAt (l : List UInt8) (i : Nat) : Bool := letB (l.getD i 0) || (!decide (i = 0) && digB (l.getD i 0))
/-- A name. -/
def nameB (l : List UInt8) : Bool := (decide (1 ≤ l.length) && decide (l.length ≤ 10)) && (List.range l.length).all (okAt l)
theorem nameB_bad {l : List UInt8} {k : Nat} (h : k < l.length) (hk : okAt l k = false) : nameB l = false := by
  unfold nameB
  have : (List.range l.length).all (okAt l) = false := by
    rw [List.all_eq_false]
    exact ⟨k, List.mem_range.2 h, by rw [hk]; decide⟩
  rw [this, Bool.and_false]
theorem nameB_all {l : List UInt8} (h : ∀ j, j < l.length → okAt l j = true) : nameB l = (decide (1 ≤ l.length) && decide (l.length ≤ 10)) := by
  unfold nameB
  have : (List.range l.length).all (okAt l) = true := List.all_eq_true.2 fun x hx => h x (List.mem_range.1 hx)
  rw [this, Bool.and_true]
set_option maxRecDepth 100000 in
set_option maxHeartbeats 400000 in
theorem letter_any (c : UInt8) (w : World) : Calls Tryz.prog 170 #[.int .u8 (c.toNat : Int)] w fun e w' => e = .returned (.bool (letB c)) ∧ w' = w := by
  unfold letB
  by_cases h1 : 97 ≤ c.toNat
  · have d1 : decide ((97 : Int) ≤ (c.toNat : Int)) = true := by simp; omega
    go_enter Tryz.func170, Tryz.ntmps170
    go_wp2
    go_ret
    exact ⟨ret_val (by simp [h1]; omega), rfl⟩
  · have d1 : decide ((97 : Int) ≤ (c.toNat : Int)) = false := by simp; omega
    go_enter Tryz.func170, Tryz.ntmps170
    go_wp2
    go_ret
    exact ⟨ret_val (by simp [h1]), rfl⟩
set_option maxRecDepth 100000 in
set_option maxHeartbeats 400000 in
theorem digit_any (c : UInt8) (w : World) : Calls Tryz.prog 171 #[.int .u8 (c.toNat : Int)] w fun e w' => e = .returned (.bool (digB c)) ∧ w' = w := by
  unfold digB
  by_cases h1 : 48 ≤ c.toNat
  · have d1 : decide ((48 : Int) ≤ (c.toNat : Int)) = true := by simp; omega
    go_enter Tryz.func171, Tryz.ntmps171
    go_wp2
    go_ret
    exact ⟨ret_val (by simp [h1]; omega), rfl⟩
  · have d1 : decide ((48 : Int) ≤ (c.toNat : Int)) = false := by simp; omega
    go_enter Tryz.func171, Tryz.ntmps171
    go_wp2
    go_ret
    exact ⟨ret_val (by simp [h1]), rfl⟩
end Go.Proofs.YtdjpghgnjcmdnaaGreatDoor

/- Events as mathematics: which may be, how they are written, which one a text is, by the program's own words and by the document's; and that both read alike. -/
namespace Go.Proofs.YtdjpghgnjcmdnaaGreatDoor
open Go.Lib
/-- An event: its kind, whose it is, the table, the row, the value. -/
structure Ev where
  k : Int
  s : ByteArray
  t : ByteArray
  r : ByteArray
  v : ByteArray
/-- A byte that a value may have; a value that may be. -/
def inB (c : UInt8) : Bool := decide (32 ≤ c.toNat) && decide (c.toNat ≤ 126)
def valB (l : List UInt8) : Bool := decide (l.length ≤ 20) && l.all inB
def rowNB (e : Ev) : Bool := nameB e.t.data.toList && nameB e.r.data.toList
def bodyB (e : Ev) : Bool :=
  if e.k = 1 then rowNB e && valB e.v.data.toList
  else if e.k = 2 then rowNB e && e.v.data.toList.isEmpty
  else if e.k = 3 then e.t.data.toList.isEmpty && (e.r.data.toList.isEmpty && e.v.data.toList.isEmpty)
  else false
/-- An event that may be. -/
def rightB (e : Ev) : Bool := nameB e.s.data.toList && bodyB e
def wPut : List UInt8 := [112, 117, 116]
def wDel : List UInt8 := [100, 101, 108]
def wGone : List UInt8 := [103, 111, 110, 101]
/-- An event as text. -/
def printL (e : Ev) : List UInt8 :=
  if e.k = 1 then wPut ++ 32 :: (e.s.data.toList ++ 32 :: (e.t.data.toList ++ 32 :: (e.r.data.toList ++ 32 :: e.v.data.toList)))
  else if e.k = 2 then wDel ++ 32 :: (e.s.data.toList ++ 32 :: (e.t.data.toList ++ 32 :: e.r.data.toList))
  else wGone ++ 32 :: e.s.data.toList
def textB (e : Ev) : ByteArray := ⟨(printL e).toArray⟩
theorem textB_data (e : Ev) : (textB e).data.toList = printL e := rfl
def kindB (l : List UInt8) : Int := if l = wPut then 1 else if l = wDel then 2 else if l = wGone then 3 else 0
def blankB : ByteArray := ⟨#[32]⟩
def at_ (ws : List ByteArray) (i : Nat) : ByteArray := ws.getD i ByteArray.empty
/-- A text's words, taken for an event's parts. -/
def evOf (ws : List ByteArray) : Ev := ⟨kindB (at_ ws 0).data.toList, at_ ws 1, at_ ws 2, at_ ws 3, at_ ws 4⟩
def fiveB (s : ByteArray) : List ByteArray := splitB blankB 0 (min 5 (s.size + 1) - 1) s
def splitEv (s : ByteArray) : Ev := evOf (fiveB s)
/-- The document's own reading. -/
def allB (s : ByteArray) : List ByteArray := splitB blankB 0 (countB s blankB) s
def headL (e : Ev) : List UInt8 := wPut ++ 32 :: (e.s.data.toList ++ 32 :: (e.t.data.toList ++ 32 :: (e.r.data.toList ++ [32])))
def headB (a b c : ByteArray) : ByteArray := ⟨(wPut ++ 32 :: (a.data.toList ++ 32 :: (b.data.toList ++ 32 :: (c.data.toList ++ [32])))).toArray⟩
def rowOf (k : Int) (x : ByteArray) : ByteArray := if k = 1 ∨ k = 2 then x else ByteArray.empty
def refBare (s : ByteArray) : Ev :=
  ⟨kindB (at_ (allB s) 0).data.toList, at_ (allB s) 1, rowOf (kindB (at_ (allB s) 0).data.toList) (at_ (allB s) 2), rowOf (kindB (at_ (allB s) 0).data.toList) (at_ (allB s) 3), ByteArray.empty⟩
def valOf (s : ByteArray) (e : Ev) : ByteArray := if e.k = 1 ∧ hasPrefix s.data.toList (headB e.s e.t e.r).data.toList = true then s.extract (headB e.s e.t e.r).size s.size else ByteArray.empty
def refEv (s : ByteArray) : Ev := { refBare s with v := valOf s (refBare s) }
/-- Is it read just so? -/
def accB (s : ByteArray) (e : Ev) : Bool := rightB e && decide (printL e = s.data.toList)

theorem ba_eq {a b : ByteArray} (h : a.data.toList = b.data.toList) : a = b := by rw [← mk_data a, h, mk_data]
theorem Ev.of_data {a b : Ev} (hk : a.k = b.k) (hs : a.s.data.toList = b.s.data.toList) (ht : a.t.data.toList = b.t.data.toList) (hr : a.r.data.toList = b.r.data.toList) (hv : a.v.data.toList = b.v.data.toList) : a = b := by
  cases a; cases b
  simp only at hk hs ht hr hv
  rw [hk, ba_eq hs, ba_eq ht, ba_eq hr, ba_eq hv]
/-- No blank. -/
def noB (l : List UInt8) : Prop := ∀ c ∈ l, c ≠ 32
theorem name_noB {l : List UInt8} (h : nameB l = true) : noB l := by
  unfold nameB at h
  rw [Bool.and_eq_true, List.all_eq_true] at h
  intro c hc e
  obtain ⟨i, hi, rfl⟩ := List.getElem_of_mem hc
  have := h.2 i (List.mem_range.2 hi)
  unfold okAt letB digB at this
  rw [List.getD_eq_getElem?_getD, List.getElem?_eq_getElem hi, Option.getD_some, e] at this
  simp at this
theorem put_noB : noB wPut := by unfold noB wPut; decide
theorem del_noB : noB wDel := by unfold noB wDel; decide
theorem gone_noB : noB wGone := by unfold noB wGone; decide
theorem index_hit : ∀ {a : List UInt8} (b : List UInt8), noB a → index (a ++ 32 :: b) [32] = a.length
  | [], b, _ => by simp [index]
  | c :: a, b, h => by
    have hc : ¬ (32 : UInt8) = c := fun e => h c (List.mem_cons_self ..) e.symm
    have ih := index_hit b (a := a) fun x hx => h x (List.mem_cons_of_mem _ hx)
    rw [List.cons_append, index, ih]
    have h1 : ([32] : List UInt8).isPrefixOf (c :: (a ++ 32 :: b)) = false := by simp [List.isPrefixOf, hc]
    have h2 : ((a.length : Int) == -1) = false := by rw [beq_eq_false_iff_ne]; omega
    rw [h1, h2]
    simp
theorem index_miss : ∀ {a : List UInt8}, noB a → index a [32] = -1
  | [], _ => by simp [index]
  | c :: a, h => by
    have hc : ¬ (32 : UInt8) = c := fun e => h c (List.mem_cons_self ..) e.symm
    have ih := index_miss (a := a) fun x hx => h x (List.mem_cons_of_mem _ hx)
    rw [index, ih]
    have h1 : ([32] : List UInt8).isPrefixOf (c :: a) = false := by simp [List.isPrefixOf, hc]
    rw [h1]
    simp
theorem splitK_hit {a : List UInt8} (b : List UInt8) (k : Nat) (h : noB a) : splitK [32] 0 (k + 1) (a ++ 32 :: b) = a :: splitK [32] 0 k b := by
  rw [splitK, index_hit b h]
  have h2 : ((a.length : Int) == -1) = false := by rw [beq_eq_false_iff_ne]; omega
  rw [h2]
  have e2 : (a ++ 32 :: b).drop (a.length + 1) = b := by
    rw [show a ++ 32 :: b = (a ++ [32]) ++ b by simp, List.drop_append_of_le_length (by simp)]
    rw [List.drop_of_length_le (by simp)]; rfl
  simp [e2]
theorem splitK_end {a : List UInt8} (k : Nat) (h : noB a) : splitK [32] 0 k a = [a] := by
  cases k with
  | zero => rfl
  | succ k => rw [splitK, index_miss h]; simp
theorem count_hit1 {a : List UInt8} (b : List UInt8) (h : noB a) : count (a ++ 32 :: b) [32] = count b [32] + 1 := by
  rw [count_hit (i := a.length) (by simp) (index_hit b h)]
  rw [show a ++ 32 :: b = (a ++ [32]) ++ b by simp, List.drop_append_of_le_length (by simp)]
  rw [List.drop_of_length_le (by simp)]
  simp; omega
theorem count_end {a : List UInt8} (h : noB a) : count a [32] = 0 := count_miss (index_miss h)
theorem at_data (ws : List ByteArray) (i : Nat) : (at_ ws i).data.toList = (ws.map (·.data.toList)).getD i [] := by
  unfold at_
  rw [List.getD_eq_getElem?_getD, List.getD_eq_getElem?_getD, List.getElem?_map]
  cases ws[i]? <;> rfl
theorem fiveB_data (s : ByteArray) : (fiveB s).map (·.data.toList) = splitK [32] 0 (min 5 (s.size + 1) - 1) s.data.toList := splitB_data blankB 0 _ s
theorem allB_data (s : ByteArray) : (allB s).map (·.data.toList) = splitK [32] 0 (count s.data.toList [32]) s.data.toList := splitB_data blankB 0 _ s
theorem kind_put : kindB wPut = 1 := by decide
theorem kind_del : kindB wDel = 2 := by decide
theorem kind_gone : kindB wGone = 3 := by decide
theorem empty_data : ByteArray.empty.data.toList = ([] : List UInt8) := rfl
theorem nil_of {l : List UInt8} (h : l.isEmpty = true) : l = [] := by simpa using h
/-- What may be has one of three kinds. -/
theorem right_kinds {e : Ev} (h : rightB e = true) : nameB e.s.data.toList = true ∧ ((e.k = 1 ∧ nameB e.t.data.toList = true ∧ nameB e.r.data.toList = true ∧ valB e.v.data.toList = true) ∨ (e.k = 2 ∧ nameB e.t.data.toList = true ∧ nameB e.r.data.toList = true ∧ e.v.data.toList = []) ∨ (e.k = 3 ∧ e.t.data.toList = [] ∧ e.r.data.toList = [] ∧ e.v.data.toList = [])) := by
  unfold rightB at h
  rw [Bool.and_eq_true] at h
  refine ⟨h.1, ?_⟩
  have hb := h.2
  unfold bodyB rowNB at hb
  by_cases h1 : e.k = 1
  · rw [if_pos h1] at hb
    simp only [Bool.and_eq_true] at hb
    exact .inl ⟨h1, hb.1.1, hb.1.2, hb.2⟩
  · rw [if_neg h1] at hb
    by_cases h2 : e.k = 2
    · rw [if_pos h2] at hb
      simp only [Bool.and_eq_true] at hb
      exact .inr (.inl ⟨h2, hb.1.1, hb.1.2, nil_of hb.2⟩)
    · rw [if_neg h2] at hb
      by_cases h3 : e.k = 3
      · rw [if_pos h3] at hb
        simp only [Bool.and_eq_true] at hb
        exact .inr (.inr ⟨h3, nil_of hb.1, nil_of hb.2.1, nil_of hb.2.2⟩)
      · rw [if_neg h3] at hb
        cases hb
theorem five_of {e : Ev} (h : 4 ≤ (printL e).length) : (fiveB (textB e)).map (·.data.toList) = splitK [32] 0 4 (printL e) := by
  rw [fiveB_data, textB_data]
  have hs : (textB e).size = (printL e).length := size_eq _
  rw [hs, show min 5 ((printL e).length + 1) - 1 = 4 by omega]
/-- What an event is written as is read as that event: by the program's own words .. -/
theorem split_text {e : Ev} (h : rightB e = true) : splitEv (textB e) = e := by
  obtain ⟨hs, ⟨hk, ht, hr, hv⟩ | ⟨hk, ht, hr, hv⟩ | ⟨hk, ht, hr, hv⟩⟩ := right_kinds h
  · have hp : printL e = wPut ++ 32 :: (e.s.data.toList ++ 32 :: (e.t.data.toList ++ 32 :: (e.r.data.toList ++ 32 :: e.v.data.toList))) := by unfold printL; rw [if_pos hk]
    have hf := five_of (e := e) (by rw [hp]; simp [wPut])
    rw [hp, splitK_hit _ 3 put_noB, splitK_hit _ 2 (name_noB hs), splitK_hit _ 1 (name_noB ht), splitK_hit _ 0 (name_noB hr)] at hf
    refine Ev.of_data ?_ ?_ ?_ ?_ ?_ <;> simp only [splitEv, evOf, at_data, hf]
    · rw [hk]; exact kind_put
    · rfl
    · rfl
    · rfl
    · rfl
  · have hp : printL e = wDel ++ 32 :: (e.s.data.toList ++ 32 :: (e.t.data.toList ++ 32 :: e.r.data.toList)) := by unfold printL; rw [if_neg (by omega), if_pos hk]
    have hf := five_of (e := e) (by rw [hp]; simp [wDel])
    rw [hp, splitK_hit _ 3 del_noB, splitK_hit _ 2 (name_noB hs), splitK_hit _ 1 (name_noB ht), splitK_end _ (name_noB hr)] at hf
    refine Ev.of_data ?_ ?_ ?_ ?_ ?_ <;> simp only [splitEv, evOf, at_data, hf]
    · rw [hk]; exact kind_del
    · rfl
    · rfl
    · rfl
    · rw [hv]; rfl
  · have hp : printL e = wGone ++ 32 :: e.s.data.toList := by unfold printL; rw [if_neg (by omega), if_neg (by omega)]
    have hf := five_of (e := e) (by rw [hp]; simp [wGone])
    rw [hp, splitK_hit _ 3 gone_noB, splitK_end _ (name_noB hs)] at hf
    refine Ev.of_data ?_ ?_ ?_ ?_ ?_ <;> simp only [splitEv, evOf, at_data, hf]
    · rw [hk]; exact kind_gone
    · rfl
    · rw [ht]; rfl
    · rw [hr]; rfl
    · rw [hv]; rfl
theorem prefix_append (a b : List UInt8) : hasPrefix (a ++ b) a = true := by
  unfold hasPrefix
  exact List.isPrefixOf_iff_prefix.2 (List.prefix_append a b)
/-- .. and by the document's. -/
theorem ref_text {e : Ev} (h : rightB e = true) : refEv (textB e) = e := by
  obtain ⟨hs, ⟨hk, ht, hr, hv⟩ | ⟨hk, ht, hr, hv⟩ | ⟨hk, ht, hr, hv⟩⟩ := right_kinds h
  · have hp : printL e = wPut ++ 32 :: (e.s.data.toList ++ 32 :: (e.t.data.toList ++ 32 :: (e.r.data.toList ++ 32 :: e.v.data.toList))) := by unfold printL; rw [if_pos hk]
    have hf := allB_data (textB e)
    rw [textB_data, hp, count_hit1 _ put_noB, count_hit1 _ (name_noB hs), count_hit1 _ (name_noB ht), count_hit1 _ (name_noB hr), splitK_hit _ _ put_noB, splitK_hit _ _ (name_noB hs), splitK_hit _ _ (name_noB ht), splitK_hit _ _ (name_noB hr)] at hf
    have b0 : kindB (at_ (allB (textB e)) 0).data.toList = 1 := by rw [at_data, hf]; exact kind_put
    have b1 : at_ (allB (textB e)) 1 = e.s := ba_eq (by rw [at_data, hf]; rfl)
    have b2 : at_ (allB (textB e)) 2 = e.t := ba_eq (by rw [at_data, hf]; rfl)
    have b3 : at_ (allB (textB e)) 3 = e.r := ba_eq (by rw [at_data, hf]; rfl)
    have hbare : refBare (textB e) = { e with v := ByteArray.empty } := by
      unfold refBare rowOf
      rw [b0, b1, b2, b3, hk]
      simp
    have hsplit : printL e = (headB e.s e.t e.r).data.toList ++ e.v.data.toList := by rw [hp]; simp [headB, wPut]
    have hval : valOf (textB e) { e with v := ByteArray.empty } = e.v := by
      unfold valOf
      rw [textB_data, hsplit]
      simp only
      rw [if_pos ⟨hk, prefix_append _ _⟩]
      refine ba_eq ?_
      rw [extract_data, textB_data, size_eq (textB e), textB_data, size_eq, hsplit]
      simp
      exact List.take_of_length_le (by rw [size_eq]; exact Nat.le_refl _)
    unfold refEv
    rw [hbare, hval]
  · have hp : printL e = wDel ++ 32 :: (e.s.data.toList ++ 32 :: (e.t.data.toList ++ 32 :: e.r.data.toList)) := by unfold printL; rw [if_neg (by omega), if_pos hk]
    have hf := allB_data (textB e)
    rw [textB_data, hp, count_hit1 _ del_noB, count_hit1 _ (name_noB hs), count_hit1 _ (name_noB ht), splitK_hit _ _ del_noB, splitK_hit _ _ (name_noB hs), splitK_hit _ _ (name_noB ht), splitK_end _ (name_noB hr)] at hf
    have b0 : kindB (at_ (allB (textB e)) 0).data.toList = 2 := by rw [at_data, hf]; exact kind_del
    have b1 : at_ (allB (textB e)) 1 = e.s := ba_eq (by rw [at_data, hf]; rfl)
    have b2 : at_ (allB (textB e)) 2 = e.t := ba_eq (by rw [at_data, hf]; rfl)
    have b3 : at_ (allB (textB e)) 3 = e.r := ba_eq (by rw [at_data, hf]; rfl)
    have hbare : refBare (textB e) = { e with v := ByteArray.empty } := by
      unfold refBare rowOf
      rw [b0, b1, b2, b3, hk]
      simp
    unfold refEv valOf
    rw [hbare]
    simp only [hk]
    refine Ev.of_data hk.symm rfl rfl rfl ?_
    rw [hv]; rfl
  · have hp : printL e = wGone ++ 32 :: e.s.data.toList := by unfold printL; rw [if_neg (by omega), if_neg (by omega)]
    have hf := allB_data (textB e)
    rw [textB_data, hp, count_hit1 _ gone_noB, splitK_hit _ _ gone_noB, splitK_end _ (name_noB hs)] at hf
    have b0 : kindB (at_ (allB (textB e)) 0).data.toList = 3 := by rw [at_data, hf]; exact kind_gone
    have b1 : at_ (allB (textB e)) 1 = e.s := ba_eq (by rw [at_data, hf]; rfl)
    unfold refEv valOf refBare rowOf
    rw [b0, b1]
    simp only
    refine Ev.of_data hk.symm rfl ?_ ?_ ?_
    · rw [ht]; rfl
    · rw [hr]; rfl
    · rw [hv]; rfl
/-- What is read just so is one event, whoever reads. -/
theorem acc_of {s : ByteArray} {e : Ev} (h : accB s e = true) : rightB e = true ∧ textB e = s := by
  unfold accB at h
  rw [Bool.and_eq_true] at h
  exact ⟨h.1, ba_eq (of_decide_eq_true h.2)⟩
theorem acc_text {e : Ev} (h : rightB e = true) : accB (textB e) e = true := by
  unfold accB
  rw [h, textB_data, decide_eq_true rfl]; rfl
theorem acc_same (s : ByteArray) : accB s (splitEv s) = accB s (refEv s) ∧ (accB s (splitEv s) = true → splitEv s = refEv s) := by
  cases h1 : accB s (splitEv s)
  · cases h2 : accB s (refEv s)
    · exact ⟨rfl, fun h => by cases h⟩
    · obtain ⟨hr, ht⟩ := acc_of h2
      have := split_text hr
      rw [ht] at this
      rw [this, h2] at h1
      cases h1
  · obtain ⟨hr, ht⟩ := acc_of h1
    have h3 := ref_text hr
    rw [ht] at h3
    rw [h3]
    exact ⟨h1.symm, fun _ => rfl⟩
end Go.Proofs.YtdjpghgnjcmdnaaGreatDoor
