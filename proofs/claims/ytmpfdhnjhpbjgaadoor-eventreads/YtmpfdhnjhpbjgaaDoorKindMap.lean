/- The document's little map of words and kinds, in whichever order its three entries are laid. -/
import Derived.Test.YtmpfdhnjhpbjgaaDoorRefSplit
import Derived.MapKept
namespace Go.Proofs.YtmpfdhnjhpbjgaaDoor
open Go.RowKit
/-- The three words. -/
def keyI (i : Fin 3) : ByteArray := if i = 0 then ⟨#[112, 117, 116]⟩ else if i = 1 then ⟨#[100, 101, 108]⟩ else ⟨#[103, 111, 110, 101]⟩
def entOf (i : Fin 3) (c : Nat) : MapEntry := { key := .string (keyI i), val := .int .i64 ((i.val : Int) + 1), born := c }
def entsFrom : Nat → List (Fin 3) → List MapEntry
  | _, [] => []
  | c, i :: l => entOf i c :: entsFrom (c + 1) l
/-- The map with the entries of a list, in its order. -/
def mObj (l : List (Fin 3)) : Obj := .map (entsFrom 0 l).toArray l.length
theorem mObj_nil : (Obj.map #[] 0) = mObj [] := rfl
theorem key_inj : ∀ i j : Fin 3, (keyI i == keyI j) = decide (i = j) := by decide
theorem find_none (i : Fin 3) : ∀ (l : List (Fin 3)) (c n : Nat), i ∉ l → Instr.findNow .string (.string (keyI i)) (entsFrom c l) n = some none
  | [], _, _, _ => rfl
  | j :: l, c, n, h => by
    have hj : (keyI i == keyI j) = false := by rw [key_inj]; exact decide_eq_false fun e => h (by rw [e]; exact List.mem_cons_self ..)
    have ih := find_none i l (c + 1) (n + 1) fun hm => h (List.mem_cons_of_mem _ hm)
    simp only [entsFrom, Instr.findNow, entOf, Instr.sameNow, hj]
    exact ih
theorem ents_push (i : Fin 3) : ∀ (l : List (Fin 3)) (c : Nat), entsFrom c (l ++ [i]) = entsFrom c l ++ [entOf i (c + l.length)]
  | [], _ => rfl
  | j :: l, c => by
    simp only [List.cons_append, entsFrom, ents_push i l (c + 1), List.length_cons]
    rw [show c + 1 + l.length = c + (l.length + 1) by omega]
/-- An entry more. -/
theorem put_run (W : World) (b : Nat) (l : List (Fin 3)) (i : Fin 3) (hb : W.heap[b]? = some (mObj l)) (hi : i ∉ l) :
    (Instr.mapUpdate 109 (.map (some b)) (.string (keyI i)) (.int .i64 ((i.val : Int) + 1))).run Tryd.prog W = .ok () { W with heap := W.heap.setIfInBounds b (mObj (l ++ [i])) } := by
  have hb' : W.heap[b]? = some (.map (entsFrom 0 l).toArray l.length) := hb
  have hf := find_none i l 0 0 hi
  have hc : (Instr.checkKey false 10000 9 (.string (keyI i))).run Tryd.prog W = .ok () W := MapKept.run_checkKey (k := .string (keyI i)) Tryd.underlying9 (by simp [MapKept.IsKey]) false 9999
  simp [Instr.mapUpdate, run_underlying Tryd.underlying109, MapKept.run_getObj_map hb', hc, MapKept.run_findKey Tryd.underlying9 hf, MapKept.run_setObj_map _ hb', Result.andThen]
  unfold mObj
  rw [ents_push]
  simp [entOf]
/-- What the map has for a word. -/
def lookL (p : ByteArray) : List (Fin 3) → Int
  | [] => 0
  | i :: l => if p == keyI i then (i.val : Int) + 1 else lookL p l
theorem beq_data (a b : ByteArray) : (a == b) = decide (a.data.toList = b.data.toList) := by
  rw [beq_toListBytes, Lib.toList_data, Lib.toList_data]
  by_cases h : a.data.toList = b.data.toList
  · rw [h, decide_eq_true rfl]; simp
  · rw [decide_eq_false h, beq_eq_false_iff_ne]; exact h
theorem lookL_cons (p : ByteArray) (i : Fin 3) (l : List (Fin 3)) : lookL p (i :: l) = if p == keyI i then (i.val : Int) + 1 else lookL p l := rfl
def asVal : Option (Nat × Value) → Value
  | some x => x.2
  | none => .int .i64 0
theorem find_look (p : ByteArray) : ∀ (l : List (Fin 3)) (c n : Nat), ∃ r, Instr.findNow .string (.string p) (entsFrom c l) n = some r ∧ asVal r = .int .i64 (lookL p l)
  | [], _, _ => ⟨none, rfl, rfl⟩
  | j :: l, c, n => by
    cases hj : (p == keyI j)
    · obtain ⟨r, h1, h2⟩ := find_look p l (c + 1) (n + 1)
      refine ⟨r, ?_, ?_⟩
      · simp only [entsFrom, Instr.findNow, entOf, Instr.sameNow, hj]; exact h1
      · rw [h2, lookL_cons, hj]; rfl
    · refine ⟨some (n, .int .i64 ((j.val : Int) + 1)), ?_, ?_⟩
      · simp only [entsFrom, Instr.findNow, entOf, Instr.sameNow, hj]
      · rw [lookL_cons, hj]; rfl
theorem look_run (W : World) (b : Nat) (l : List (Fin 3)) (p : ByteArray) (hb : W.heap[b]? = some (mObj l)) :
    (Instr.lookup 109 (.map (some b)) (.string p) false).run Tryd.prog W = .ok (.int .i64 (lookL p l)) W := by
  have hb' : W.heap[b]? = some (.map (entsFrom 0 l).toArray l.length) := hb
  obtain ⟨r, hf, hr⟩ := find_look p l 0 0
  have hc : ∀ e, (Instr.checkKey e 10000 9 (.string p)).run Tryd.prog W = .ok () W := fun e => MapKept.run_checkKey (k := .string p) Tryd.underlying9 (by simp [MapKept.IsKey]) e 9999
  have hz : (zeroValue 3).run Tryd.prog W = .ok (.int .i64 0) W := by kernel_rfl
  rw [← hr]
  cases r with
  | none => simp [Instr.lookup, run_underlying Tryd.underlying109, MapKept.run_getObj_map hb', hc, MapKept.run_findKey Tryd.underlying9 hf, hz, Result.andThen, asVal]
  | some x => simp [Instr.lookup, run_underlying Tryd.underlying109, MapKept.run_getObj_map hb', hc, MapKept.run_findKey Tryd.underlying9 hf, Result.andThen, asVal]
theorem look_hit (p : ByteArray) (i : Fin 3) (hp : (p == keyI i) = true) : ∀ l : List (Fin 3), i ∈ l → lookL p l = (i.val : Int) + 1
  | j :: l, h => by
    rw [lookL_cons]
    cases hj : (p == keyI j)
    · rw [if_neg (by decide)]
      refine look_hit p i hp l ?_
      rcases List.mem_cons.1 h with rfl | h
      · rw [hp] at hj; cases hj
      · exact h
    · rw [if_pos rfl]
      rw [beq_data] at hp hj
      have e3 : (keyI i == keyI j) = true := by rw [beq_data]; exact decide_eq_true ((of_decide_eq_true hp).symm.trans (of_decide_eq_true hj))
      rw [key_inj] at e3
      rw [of_decide_eq_true e3]
theorem look_none (p : ByteArray) (hp : ∀ i, (p == keyI i) = false) : ∀ l : List (Fin 3), lookL p l = 0
  | [] => rfl
  | j :: l => by rw [lookL_cons, hp j, if_neg (by decide)]; exact look_none p hp l
/-- All three are there: a word's kind. -/
theorem look_kind (p : ByteArray) (l : List (Fin 3)) (h0 : (0 : Fin 3) ∈ l) (h1 : (1 : Fin 3) ∈ l) (h2 : (2 : Fin 3) ∈ l) : lookL p l = kindB p.data.toList := by
  unfold kindB
  have e0 : (keyI 0).data.toList = wPut := rfl
  have e1 : (keyI 1).data.toList = wDel := rfl
  have e2 : (keyI 2).data.toList = wGone := rfl
  by_cases c0 : p.data.toList = wPut
  · rw [if_pos c0, look_hit p 0 (by rw [beq_data, e0]; exact decide_eq_true c0) l h0]; rfl
  · rw [if_neg c0]
    by_cases c1 : p.data.toList = wDel
    · rw [if_pos c1, look_hit p 1 (by rw [beq_data, e1]; exact decide_eq_true c1) l h1]; rfl
    · rw [if_neg c1]
      by_cases c2 : p.data.toList = wGone
      · rw [if_pos c2, look_hit p 2 (by rw [beq_data, e2]; exact decide_eq_true c2) l h2]; rfl
      · rw [if_neg c2]
        refine look_none p (fun i => ?_) l
        rw [beq_data]
        match i with
        | 0 => exact decide_eq_false c0
        | 1 => exact decide_eq_false c1
        | 2 => exact decide_eq_false c2
/-- What the walk meets: the map's block is the newest one, or there is one behind it. -/
theorem heap_top (W : World) (o : Obj) : (W.alloc o).drew.heap[W.heap.size]? = some o := heap_alloc_new W o
theorem set_top (W : World) (o o' : Obj) : ({ (W.alloc o).drew with heap := (W.alloc o).drew.heap.setIfInBounds W.heap.size o' } : World) = (W.alloc o').drew := by
  have e : (W.heap.push o).setIfInBounds W.heap.size o' = W.heap.push o' := by
    apply Array.ext'
    simp
  unfold World.drew World.alloc
  simp only
  rw [e]
theorem put_top (W : World) (l : List (Fin 3)) (i : Fin 3) (hi : i ∉ l) : (Instr.mapUpdate 109 (.map (some W.heap.size)) (.string (keyI i)) (.int .i64 ((i.val : Int) + 1))).run Tryd.prog (W.alloc (mObj l)).drew = .ok () (W.alloc (mObj (l ++ [i]))).drew := by
  rw [put_run _ _ l i (heap_top W _) hi, set_top]
theorem heap_under (W : World) (o q : Obj) : ((W.alloc o).alloc q).drew.heap[W.heap.size]? = some o := by
  show ((W.alloc o).alloc q).heap[W.heap.size]? = some o
  rw [Below.heap_alloc _ q _ (by simp)]; exact heap_alloc_new W o
theorem set_under (W : World) (o o' q : Obj) : ({ ((W.alloc o).alloc q).drew with heap := ((W.alloc o).alloc q).drew.heap.setIfInBounds W.heap.size o' } : World) = ((W.alloc o').alloc q).drew := by
  have e : ((W.heap.push o).push q).setIfInBounds W.heap.size o' = (W.heap.push o').push q := by
    apply Array.ext'
    simp
  unfold World.drew World.alloc
  simp only
  rw [e]
theorem put_under (W : World) (q : Obj) (l : List (Fin 3)) (i : Fin 3) (hi : i ∉ l) : (Instr.mapUpdate 109 (.map (some W.heap.size)) (.string (keyI i)) (.int .i64 ((i.val : Int) + 1))).run Tryd.prog ((W.alloc (mObj l)).alloc q).drew = .ok () ((W.alloc (mObj (l ++ [i]))).alloc q).drew := by
  rw [put_run _ _ l i (heap_under W _ q) hi, set_under]
theorem make_run (W : World) : (Instr.makeMap 109 none).run Tryd.prog W = .ok (.map (some W.heap.size)) (W.alloc (mObj [])) := rfl
theorem ins0_top (W : World) (l : List (Fin 3)) (h : (0 : Fin 3) ∉ l) : (Instr.mapUpdate 109 (.map (some W.heap.size)) (.string ⟨#[112, 117, 116]⟩) (.int .i64 1)).run Tryd.prog (W.alloc (mObj l)).drew = .ok () (W.alloc (mObj (l ++ [0]))).drew := put_top W l 0 h
theorem ins0_under (W : World) (q : Obj) (l : List (Fin 3)) (h : (0 : Fin 3) ∉ l) : (Instr.mapUpdate 109 (.map (some W.heap.size)) (.string ⟨#[112, 117, 116]⟩) (.int .i64 1)).run Tryd.prog ((W.alloc (mObj l)).alloc q).drew = .ok () ((W.alloc (mObj (l ++ [0]))).alloc q).drew := put_under W q l 0 h
theorem ins0_over (W : World) (q : Obj) (l : List (Fin 3)) (h : (0 : Fin 3) ∉ l) : (Instr.mapUpdate 109 (.map (some (W.heap.size + 1))) (.string ⟨#[112, 117, 116]⟩) (.int .i64 1)).run Tryd.prog ((W.alloc q).alloc (mObj l)).drew = .ok () ((W.alloc q).alloc (mObj (l ++ [0]))).drew := by
  have e : (W.alloc q).heap.size = W.heap.size + 1 := by simp
  rw [← e]; exact put_top (W.alloc q) l 0 h
theorem ins1_top (W : World) (l : List (Fin 3)) (h : (1 : Fin 3) ∉ l) : (Instr.mapUpdate 109 (.map (some W.heap.size)) (.string ⟨#[100, 101, 108]⟩) (.int .i64 2)).run Tryd.prog (W.alloc (mObj l)).drew = .ok () (W.alloc (mObj (l ++ [1]))).drew := put_top W l 1 h
theorem ins1_under (W : World) (q : Obj) (l : List (Fin 3)) (h : (1 : Fin 3) ∉ l) : (Instr.mapUpdate 109 (.map (some W.heap.size)) (.string ⟨#[100, 101, 108]⟩) (.int .i64 2)).run Tryd.prog ((W.alloc (mObj l)).alloc q).drew = .ok () ((W.alloc (mObj (l ++ [1]))).alloc q).drew := put_under W q l 1 h
theorem ins1_over (W : World) (q : Obj) (l : List (Fin 3)) (h : (1 : Fin 3) ∉ l) : (Instr.mapUpdate 109 (.map (some (W.heap.size + 1))) (.string ⟨#[100, 101, 108]⟩) (.int .i64 2)).run Tryd.prog ((W.alloc q).alloc (mObj l)).drew = .ok () ((W.alloc q).alloc (mObj (l ++ [1]))).drew := by
  have e : (W.alloc q).heap.size = W.heap.size + 1 := by simp
  rw [← e]; exact put_top (W.alloc q) l 1 h
theorem ins2_top (W : World) (l : List (Fin 3)) (h : (2 : Fin 3) ∉ l) : (Instr.mapUpdate 109 (.map (some W.heap.size)) (.string ⟨#[103, 111, 110, 101]⟩) (.int .i64 3)).run Tryd.prog (W.alloc (mObj l)).drew = .ok () (W.alloc (mObj (l ++ [2]))).drew := put_top W l 2 h
theorem ins2_under (W : World) (q : Obj) (l : List (Fin 3)) (h : (2 : Fin 3) ∉ l) : (Instr.mapUpdate 109 (.map (some W.heap.size)) (.string ⟨#[103, 111, 110, 101]⟩) (.int .i64 3)).run Tryd.prog ((W.alloc (mObj l)).alloc q).drew = .ok () ((W.alloc (mObj (l ++ [2]))).alloc q).drew := put_under W q l 2 h
theorem ins2_over (W : World) (q : Obj) (l : List (Fin 3)) (h : (2 : Fin 3) ∉ l) : (Instr.mapUpdate 109 (.map (some (W.heap.size + 1))) (.string ⟨#[103, 111, 110, 101]⟩) (.int .i64 3)).run Tryd.prog ((W.alloc q).alloc (mObj l)).drew = .ok () ((W.alloc q).alloc (mObj (l ++ [2]))).drew := by
  have e : (W.alloc q).heap.size = W.heap.size + 1 := by simp
  rw [← e]; exact put_top (W.alloc q) l 2 h
theorem look_top (W : World) (l : List (Fin 3)) (p : ByteArray) (h0 : (0 : Fin 3) ∈ l) (h1 : (1 : Fin 3) ∈ l) (h2 : (2 : Fin 3) ∈ l) : (Instr.lookup 109 (.map (some W.heap.size)) (.string p) false).run Tryd.prog (W.alloc (mObj l)).drew = .ok (.int .i64 (kindB p.data.toList)) (W.alloc (mObj l)).drew := by
  rw [look_run _ _ l p (heap_top W _), look_kind p l h0 h1 h2]
theorem look_under (W : World) (q : Obj) (l : List (Fin 3)) (p : ByteArray) (h0 : (0 : Fin 3) ∈ l) (h1 : (1 : Fin 3) ∈ l) (h2 : (2 : Fin 3) ∈ l) : (Instr.lookup 109 (.map (some W.heap.size)) (.string p) false).run Tryd.prog ((W.alloc (mObj l)).alloc q).drew = .ok (.int .i64 (kindB p.data.toList)) ((W.alloc (mObj l)).alloc q).drew := by
  rw [look_run _ _ l p (heap_under W _ q), look_kind p l h0 h1 h2]
theorem look_over (W : World) (q : Obj) (l : List (Fin 3)) (p : ByteArray) (h0 : (0 : Fin 3) ∈ l) (h1 : (1 : Fin 3) ∈ l) (h2 : (2 : Fin 3) ∈ l) : (Instr.lookup 109 (.map (some (W.heap.size + 1))) (.string p) false).run Tryd.prog ((W.alloc q).alloc (mObj l)).drew = .ok (.int .i64 (kindB p.data.toList)) ((W.alloc q).alloc (mObj l)).drew := by
  have e : (W.alloc q).heap.size = W.heap.size + 1 := by simp
  rw [← e]; exact look_top (W.alloc q) l p h0 h1 h2
end Go.Proofs.YtmpfdhnjhpbjgaaDoor
