/- Texts of this proof, one behind the other. -/
import Derived.Sort.LotA
import Derived.Lib.Bytealg
import Derived.Test.YtdjpghgnjcmdnaaGreatDoorPart13
/- What the program's vault keeps of a subject. -/
namespace Go.Proofs.YtdjpghgnjcmdnaaGreatDoor
open Go.RowKit Go.Maps
attribute [local go_sem ↓] Go.wp_at_zero Go.wp_at_succ
/-- What a call that keeps something of a subject leaves. -/
def Keeps (w w' : World) (b : Nat) (mo : Option Nat) (sec : ByteArray) (n : Nat) (σ : Kept) : Prop :=
  ∃ m, ProgV w' b (some m) sec n σ ∧ (mo = some m ∨ (mo = none ∧ w.heap.size ≤ m)) ∧ Stirred (b :: mo.toList) w w'
theorem nilMapV (w : World) : (binOp .eql 141 (.map none) (.map none)).run Tryz.prog w = .ok (.bool true) w := by kernel_rfl
theorem aMapV (m : Nat) (w : World) : (binOp .eql 141 (.map (some m)) (.map none)).run Tryz.prog w = .ok (.bool false) w := by kernel_rfl
set_option maxRecDepth 100000 in
set_option maxHeartbeats 1000000 in
theorem keep_any (b : Nat) (mo : Option Nat) (sec s k : ByteArray) (a n : Nat) (σ σ' : Kept) (w : World) (hs : s.size ≤ 60) (hn : n < 1000) (hV : ProgV w b mo sec n σ)
    (hσ : ∀ D, HeldIs (keyL sec) D σ → HeldIs (keyL sec) (D.put (.string s.data.toList) (holdD a k.data.toList)) σ') :
    Calls Tryz.prog 201 #[.pointer (some ⟨b, 0, none⟩), .string s, .agg #[.int .i64 (a : Int), .string k]] w fun e w' => e = .returned (.tuple #[]) ∧ Keeps w w' b mo sec (n + 1) σ' := by
  have hkey := key9 s hs
  have c1 : w.cell? ⟨b, 1, none⟩ = some (.map mo) := hV.row.cell 1
  have f1 : w.frozen? ⟨b, 1, none⟩ = false := hV.row.free 1
  have hb := hV.row.lt
  cases mo with
  | none =>
    have hmm := @run_makeMap Tryz.prog
    have hq := nilMapV
    have hown : (((w.setCell ⟨b, 1, none⟩ (.map (some (w.heap.size + 1)))).alloc (.cells #[.int .i64 (a : Int), .string k] 145)).alloc (.map #[] 0)).ownsMap Tryz.prog 9 holdElem (w.heap.size + 1) 0 (.map []) := by
      have h := World.ownsMap_made ((w.setCell ⟨b, 1, none⟩ (.map (some (w.heap.size + 1)))).alloc (.cells #[.int .i64 (a : Int), .string k] 145)) Tryz.prog 9 holdElem
      have e : ((w.setCell ⟨b, 1, none⟩ (.map (some (w.heap.size + 1)))).alloc (.cells #[.int .i64 (a : Int), .string k] 145)).heap.size = w.heap.size + 1 := by simp [World.setCell]
      rw [e] at h
      exact h
    obtain ⟨w1, hrun, ho1, ht1⟩ := hown.drew.store law9 Tryz.underlying141 (by unfold maxLen; omega) hkey (holdElem_mk (a : Int) k)
    have Hσ := hide (hσ _ ((hV.none rfl) ▸ heldIs0 (keyL sec)))
    have HR := hide (hV.row.set 1 (.map (some (w.heap.size + 1))))
    have HO := hide ho1
    have HT := hide ht1
    clear hown ho1 ht1 hσ hV
    go_enter Tryz.func201, Tryz.ntmps201
    go_wp2
    go_region
    go_end0
    have t0 : Stirred [b] w (((w.setCell ⟨b, 1, none⟩ (.map (some (w.heap.size + 1)))).alloc (.cells #[.int .i64 (a : Int), .string k] 145)).alloc (.map #[] 0)).drew :=
      (Stirred.setCell w ⟨b, 1, none⟩ _).then_below (((Below.refl _ _).alloc (Nat.le_refl _) _).alloc (by simp) _).drew
    have t1 := Stirred.of_turned HT.out
    exact ⟨rfl, w.heap.size + 1, ⟨(((HR.out.alloc _).alloc _).drew).turned t1 (by simp; omega), (fun e => by cases e), (fun m e => by cases e; exact ⟨_, HO.out.mono (by omega), Hσ.out⟩)⟩,
      .inr ⟨rfl, by omega⟩, t0.andThen t1 (fun j hj => .inr (by simp at hj; omega))⟩
  | some m =>
    obtain ⟨D, ho, hi⟩ := hV.held m rfl
    have hq := aMapV m
    obtain ⟨w1, hrun, ho1, ht1⟩ := (ho.alloc (.cells #[.int .i64 (a : Int), .string k] 145)).drew.store law9 Tryz.underlying141 (by unfold maxLen; omega) hkey (holdElem_mk (a : Int) k)
    have Hσ := hide (hσ _ hi)
    have HR := hide hV.row
    have HO := hide ho1
    have HT := hide ht1
    have HA := hide (hV.apart rfl)
    clear ho ho1 ht1 hσ hV hi
    go_enter Tryz.func201, Tryz.ntmps201
    go_wp2
    go_region
    go_end0
    have t0 : Stirred (b :: (some m).toList) w (w.alloc (.cells #[.int .i64 (a : Int), .string k] 145)).drew := Stirred.of_below ((Below.refl _ w).alloc (Nat.le_refl _) _).drew _
    have t1 := Stirred.of_turned HT.out
    exact ⟨rfl, m, ⟨(HR.out.alloc _).drew.turned t1 (by simp; exact fun e => HA.out e.symm), (fun e => by cases e), (fun m' e => by cases e; exact ⟨_, HO.out, Hσ.out⟩)⟩,
      .inl rfl, t0.andThen t1 (fun j hj => .inl (by simp at hj; simp [hj]))⟩
end Go.Proofs.YtdjpghgnjcmdnaaGreatDoor

/- The table of a desk's orders, as it is made. -/
namespace Go.Proofs.YtdjpghgnjcmdnaaGreatDoor
open Go.RowKit Go.Shelf Go.Sort Go.Maps
attribute [local go_sem ↓] Go.wp_at_zero Go.wp_at_succ
set_option linter.unusedSectionVars false
variable [Inhabited LowT]
/-- How an order reads: how many words, whether the last one is a number, what is done, of which desk. -/
def ordElem (v : Value) : Option (DataW Unit × List MemPlace) :=
  match v with
  | .agg cs => match cs.toList with
    | [.int .i64 n, .bool q, .func (.func f) p c] => match p.toList, c.toList with
      | [.pointer (some ⟨b, 0, none⟩)], [] => some (.agg [.lit (.int .i64 n), .lit (.bool q), .lit (.int .i64 (f : Int)), .lit (.int .i64 (b : Int))], [])
      | _, _ => none
    | [.int .i64 n, .bool q, .nilFunc] => some (.agg [.lit (.int .i64 n), .lit (.bool q)], [])
    | _ => none
  | _ => none
def ordD (n : Int) (q : Bool) (f db : Nat) : DataW Unit := .agg [.lit (.int .i64 n), .lit (.bool q), .lit (.int .i64 (f : Int)), .lit (.int .i64 (db : Int))]
def ordV (n : Int) (q : Bool) (f db : Nat) : Value := .agg #[.int .i64 n, .bool q, .func (.func f) #[.pointer (some ⟨db, 0, none⟩)] #[]]
theorem ordElem_mk (n : Int) (q : Bool) (f db : Nat) : ordElem (.agg #[.int .i64 n, .bool q, .func (.func f) #[.pointer (some ⟨db, 0, none⟩)] #[]]) = some (ordD n q f db, []) := rfl
theorem ordElem_0 : ordElem (.agg #[.int .i64 0, .bool false, .nilFunc]) = some (.agg [.lit (.int .i64 0), .lit (.bool false)], []) := rfl
theorem zero54 (w : World) : (zeroValue 54).run Tryz.prog w = .ok (.agg #[.int .i64 0, .bool false, .nilFunc]) w := by kernel_rfl
/-- The orders: a word, how many words behind it (-1: as many as there are), whether the last one is a number, what is done. -/
def ordersL : List (ByteArray × Int × Bool × Nat) := [(⟨#[110, 101, 119]⟩, 1, false, 14), (⟨#[112, 117, 116]⟩, -1, false, 15), (⟨#[100, 101, 108]⟩, -1, false, 15), (⟨#[103, 111, 110, 101]⟩, -1, false, 15), (⟨#[99, 101, 108, 108, 115]⟩, 0, false, 16), (⟨#[114, 101, 97, 100]⟩, 2, true, 17), (⟨#[114, 111, 119, 115]⟩, 1, false, 18), (⟨#[108, 111, 115, 116]⟩, 1, false, 19), (⟨#[115, 97, 118, 101]⟩, 1, false, 20), (⟨#[108, 111, 97, 100]⟩, 1, false, 21), (⟨#[102, 101, 101, 100]⟩, 0, false, 22), (⟨#[119, 105, 114, 101]⟩, 1, true, 23), (⟨#[115, 117, 98, 106, 101, 99, 116, 115]⟩, 0, false, 24), (⟨#[98, 108, 111, 99, 107]⟩, 2, true, 25), (⟨#[115, 117, 109]⟩, -1, false, 26), (⟨#[104, 101, 108, 112]⟩, 0, false, 27)]
/-- The table as data. -/
def tableD (db : Nat) : DataW Unit := ordersL.foldl (fun D o => D.put (.string o.1.data.toList) (ordD o.2.1 o.2.2.1 o.2.2.2 db)) (.map [])
set_option maxRecDepth 100000 in
set_option maxHeartbeats 4000000 in
theorem table_any (db : Nat) (w : World) : Calls Tryz.prog 6 #[.pointer (some ⟨db, 0, none⟩)] w fun e w' => e = .returned (.map (some w.heap.size)) ∧ w'.ownsMap Tryz.prog 9 ordElem w.heap.size 16 (tableD db) ∧ Below w.heap.size w w' := by
  have hmf : ∀ (fn : Fn) (first cap : Array Value) (w : World), (Instr.makeFunc fn first cap).run Tryz.prog w = .ok (.func fn first cap) w := fun _ _ _ _ => rfl
  have hmm := @run_makeMap Tryz.prog
  have o0 := World.ownsMap_made (H := Unit) w Tryz.prog 9 ordElem
  obtain ⟨w1, r1, o1, t1⟩ := o0.update law9 Tryz.underlying27 (by unfold maxLen; omega) (key9 ⟨#[110, 101, 119]⟩ (by decide)) (ordElem_mk 1 false 14 db)
  obtain ⟨w2, r2, o2, t2⟩ := o1.update law9 Tryz.underlying27 (by unfold maxLen; omega) (key9 ⟨#[112, 117, 116]⟩ (by decide)) (ordElem_mk (-1) false 15 db)
  obtain ⟨w3, r3, o3, t3⟩ := o2.update law9 Tryz.underlying27 (by unfold maxLen; omega) (key9 ⟨#[100, 101, 108]⟩ (by decide)) (ordElem_mk (-1) false 15 db)
  obtain ⟨w4, r4, o4, t4⟩ := o3.update law9 Tryz.underlying27 (by unfold maxLen; omega) (key9 ⟨#[103, 111, 110, 101]⟩ (by decide)) (ordElem_mk (-1) false 15 db)
  obtain ⟨w5, r5, o5, t5⟩ := o4.update law9 Tryz.underlying27 (by unfold maxLen; omega) (key9 ⟨#[99, 101, 108, 108, 115]⟩ (by decide)) (ordElem_mk 0 false 16 db)
  obtain ⟨w6, r6, o6, t6⟩ := o5.update law9 Tryz.underlying27 (by unfold maxLen; omega) (key9 ⟨#[114, 101, 97, 100]⟩ (by decide)) (ordElem_mk 2 true 17 db)
  obtain ⟨w7, r7, o7, t7⟩ := o6.update law9 Tryz.underlying27 (by unfold maxLen; omega) (key9 ⟨#[114, 111, 119, 115]⟩ (by decide)) (ordElem_mk 1 false 18 db)
  obtain ⟨w8, r8, o8, t8⟩ := o7.update law9 Tryz.underlying27 (by unfold maxLen; omega) (key9 ⟨#[108, 111, 115, 116]⟩ (by decide)) (ordElem_mk 1 false 19 db)
  obtain ⟨w9, r9, o9, t9⟩ := o8.update law9 Tryz.underlying27 (by unfold maxLen; omega) (key9 ⟨#[115, 97, 118, 101]⟩ (by decide)) (ordElem_mk 1 false 20 db)
  obtain ⟨w10, r10, o10, t10⟩ := o9.update law9 Tryz.underlying27 (by unfold maxLen; omega) (key9 ⟨#[108, 111, 97, 100]⟩ (by decide)) (ordElem_mk 1 false 21 db)
  obtain ⟨w11, r11, o11, t11⟩ := o10.update law9 Tryz.underlying27 (by unfold maxLen; omega) (key9 ⟨#[102, 101, 101, 100]⟩ (by decide)) (ordElem_mk 0 false 22 db)
  obtain ⟨w12, r12, o12, t12⟩ := o11.update law9 Tryz.underlying27 (by unfold maxLen; omega) (key9 ⟨#[119, 105, 114, 101]⟩ (by decide)) (ordElem_mk 1 true 23 db)
  obtain ⟨w13, r13, o13, t13⟩ := o12.update law9 Tryz.underlying27 (by unfold maxLen; omega) (key9 ⟨#[115, 117, 98, 106, 101, 99, 116, 115]⟩ (by decide)) (ordElem_mk 0 false 24 db)
  obtain ⟨w14, r14, o14, t14⟩ := o13.update law9 Tryz.underlying27 (by unfold maxLen; omega) (key9 ⟨#[98, 108, 111, 99, 107]⟩ (by decide)) (ordElem_mk 2 true 25 db)
  obtain ⟨w15, r15, o15, t15⟩ := o14.update law9 Tryz.underlying27 (by unfold maxLen; omega) (key9 ⟨#[115, 117, 109]⟩ (by decide)) (ordElem_mk (-1) false 26 db)
  obtain ⟨w16, r16, o16, t16⟩ := o15.update law9 Tryz.underlying27 (by unfold maxLen; omega) (key9 ⟨#[104, 101, 108, 112]⟩ (by decide)) (ordElem_mk 0 false 27 db)
  have B0 := (Below.refl w.heap.size w).alloc (Nat.le_refl _) (.map #[] 0)
  have B1 := B0.grown t1 (by have := B0.size; omega) (fun k e => by cases e; exact Nat.le_refl _)
  have B2 := B1.grown t2 (by have := B1.size; omega) (fun k e => by cases e; exact Nat.le_refl _)
  have B3 := B2.grown t3 (by have := B2.size; omega) (fun k e => by cases e; exact Nat.le_refl _)
  have B4 := B3.grown t4 (by have := B3.size; omega) (fun k e => by cases e; exact Nat.le_refl _)
  have B5 := B4.grown t5 (by have := B4.size; omega) (fun k e => by cases e; exact Nat.le_refl _)
  have B6 := B5.grown t6 (by have := B5.size; omega) (fun k e => by cases e; exact Nat.le_refl _)
  have B7 := B6.grown t7 (by have := B6.size; omega) (fun k e => by cases e; exact Nat.le_refl _)
  have B8 := B7.grown t8 (by have := B7.size; omega) (fun k e => by cases e; exact Nat.le_refl _)
  have B9 := B8.grown t9 (by have := B8.size; omega) (fun k e => by cases e; exact Nat.le_refl _)
  have B10 := B9.grown t10 (by have := B9.size; omega) (fun k e => by cases e; exact Nat.le_refl _)
  have B11 := B10.grown t11 (by have := B10.size; omega) (fun k e => by cases e; exact Nat.le_refl _)
  have B12 := B11.grown t12 (by have := B11.size; omega) (fun k e => by cases e; exact Nat.le_refl _)
  have B13 := B12.grown t13 (by have := B12.size; omega) (fun k e => by cases e; exact Nat.le_refl _)
  have B14 := B13.grown t14 (by have := B13.size; omega) (fun k e => by cases e; exact Nat.le_refl _)
  have B15 := B14.grown t15 (by have := B14.size; omega) (fun k e => by cases e; exact Nat.le_refl _)
  have B16 := B15.grown t16 (by have := B15.size; omega) (fun k e => by cases e; exact Nat.le_refl _)
  have O := hide o16
  have B := hide B16
  clear o1 t1 o2 t2 o3 t3 o4 t4 o5 t5 o6 t6 o7 t7 o8 t8 o9 t9 o10 t10 o11 t11 o12 t12 o13 t13 o14 t14 o15 t15 o16 t16 o0 B0 B1 B2 B3 B4 B5 B6 B7 B8 B9 B10 B11 B12 B13 B14 B15 B16
  go_enter Tryz.func6, Tryz.ntmps6
  go_wp2
  go_ret
  exact ⟨rfl, O.out, B.out⟩
end Go.Proofs.YtdjpghgnjcmdnaaGreatDoor

/- An order, looked up by its word. -/
namespace Go.Proofs.YtdjpghgnjcmdnaaGreatDoor
open Go.RowKit Go.Shelf Go.Sort Go.Maps
set_option linter.unusedSectionVars false
variable [Inhabited LowT]
/-- What a word orders. -/
def orderB (x : ByteArray) : Option (Int × Bool × Nat) := (ordersL.reverse.find? (fun o => decide (o.1 = x))).map (·.2)
def putsD (db : Nat) (R : List (ByteArray × Int × Bool × Nat)) : DataW Unit := R.foldr (fun o (D : DataW Unit) => D.put (.string o.1.data.toList) (ordD o.2.1 o.2.2.1 o.2.2.2 db)) (DataW.map [])
theorem orders_at (db : Nat) (x : ByteArray) (z : DataW Unit) : ∀ R : List (ByteArray × Int × Bool × Nat), IsMap (putsD db R) ∧ (putsD db R).atKey (.string x.data.toList) z = match (R.find? (fun o => decide (o.1 = x))).map (·.2) with
    | some o => ordD o.1 o.2.1 o.2.2 db
    | none => z
  | [] => ⟨⟨[], rfl⟩, rfl⟩
  | o :: R => by
    obtain ⟨h1, h2⟩ := orders_at db x z R
    refine ⟨h1.put _ _, ?_⟩
    show ((putsD db R).put (.string o.1.data.toList) (ordD o.2.1 o.2.2.1 o.2.2.2 db)).atKey (.string x.data.toList) z = _
    rw [atKey_put h1, List.find?_cons]
    by_cases h : o.1 = x
    · subst h
      simp
    · have hne : ¬ x.data.toList = o.1.data.toList := fun e => h (ByteArray.ext (Array.toList_inj.1 e.symm))
      rw [if_neg hne, h2]
      simp [h]
theorem tableD_at (db : Nat) (x : ByteArray) (z : DataW Unit) : (tableD db).atKey (.string x.data.toList) z = match orderB x with
    | some o => ordD o.1 o.2.1 o.2.2 db
    | none => z := by
  unfold tableD orderB
  rw [List.foldl_eq_foldr_reverse]
  exact (orders_at db x z _).2
theorem ordElem_is {v : Value} {n : Int} {q : Bool} {f db : Nat} {ps : List MemPlace} (h : ordElem v = some (ordD n q f db, ps)) : v = .agg #[.int .i64 n, .bool q, .func (.func f) #[.pointer (some ⟨db, 0, none⟩)] #[]] := by
  unfold ordElem at h
  split at h
  · rename_i cs
    split at h
    · rename_i n' q' f' p c hcs
      split at h
      · rename_i b' hp hc
        simp only [ordD, Option.some.injEq, Prod.mk.injEq, DataW.agg.injEq, List.cons.injEq, DataW.lit.injEq, Lit.int.injEq, Lit.bool.injEq, and_true, true_and, Int.natCast_inj] at h
        obtain ⟨⟨rfl, rfl, rfl, rfl⟩, _⟩ := h
        rw [← Array.toArray_toList (xs := cs), hcs, ← Array.toArray_toList (xs := p), hp, ← Array.toArray_toList (xs := c), hc]
      · cases h
    · simp [ordD] at h
    · cases h
  · cases h
/-- What a look-up of a word tells. -/
theorem order_look {w : World} {m db : Nat} (h : w.ownsMap Tryz.prog 9 ordElem m 16 (tableD db)) (x : ByteArray) (hx : x.size ≤ 60000) : ∃ v ok, (Instr.lookup 27 (.map (some m)) (.string x) true).run Tryz.prog w = .ok (.tuple #[v, .bool ok]) w ∧ match orderB x with
    | some o => ok = true ∧ v = .agg #[.int .i64 o.1, .bool o.2.1, .func (.func o.2.2) #[.pointer (some ⟨db, 0, none⟩)] #[]]
    | none => ok = false ∧ v = .agg #[.int .i64 0, .bool false, .nilFunc] := by
  have hkey : keyOf Tryz.prog 9 (.string x) = some (.string x.data.toList) := WideMaps.keyOf_string_mk Tryz.underlying9 (by unfold maxLen; omega)
  obtain ⟨es, clock, hb, F, _, hD⟩ := h
  have T := tableD_at db x
  rw [hD] at T
  rcases fit_look true law9 Tryz.underlying27 (zero54 w) hb F hkey with ⟨hrun, _, hat⟩ | ⟨e0, y, _, _, hrun, hRv, hat, _⟩
  · refine ⟨_, _, hrun, ?_⟩
    cases ho : orderB x with
    | none => exact ⟨rfl, rfl⟩
    | some o =>
      have e1 := (hat (.lit (.bool true))).symm.trans (T _)
      rw [ho] at e1
      cases e1
  · refine ⟨_, _, hrun, ?_⟩
    cases ho : orderB x with
    | none =>
      have e1 := (hat (.lit (.bool true))).symm.trans (T _)
      have e2 := (hat (.lit (.bool false))).symm.trans (T _)
      rw [ho] at e1 e2
      rw [e1] at e2
      cases e2
    | some o =>
      have e1 := (hat (.lit (.bool true))).symm.trans (T _)
      rw [ho] at e1
      refine ⟨rfl, ?_⟩
      cases y
      simp only at e1
      subst e1
      exact ordElem_is hRv
end Go.Proofs.YtdjpghgnjcmdnaaGreatDoor

/- Rows as mathematics: a row's cell, the order of cells, and lists of cells that stand in order. -/
namespace Go.Proofs.YtdjpghgnjcmdnaaGreatDoor
open Go.Sort Go.Lib
/-- A row: its table, its name, whose it is, its value. -/
structure Cl where
  t : ByteArray
  r : ByteArray
  s : ByteArray
  v : ByteArray
def cl0 : Cl := ⟨ByteArray.empty, ByteArray.empty, ByteArray.empty, ByteArray.empty⟩
theorem bytes_eq {a b : ByteArray} (h : a.data.toList = b.data.toList) : a = b := by
  apply ByteArray.ext
  exact Array.toList_inj.1 h
/-- Which rows there are: whose, and of which value. -/
abbrev Tab := ByteArray → ByteArray → Option (ByteArray × ByteArray)
def tab0 : Tab := fun _ _ => none
/-- Texts, byte by byte. -/
def ltB (a b : ByteArray) : Bool := decide (a.data.toList < b.data.toList)
theorem ltB_irrefl (a : ByteArray) : ltB a a = false := swo_ltStr.irrefl _
theorem ltB_trans {a b c : ByteArray} (h : ltB a b = true) (k : ltB b c = true) : ltB a c = true := swo_ltStr.trans _ _ _ h k
theorem ltB_total {a b : ByteArray} (h : ltB a b = false) (k : ltB b a = false) : a = b := by
  unfold ltB at h k
  simp only [decide_eq_false_iff_not, List.not_lt] at h k
  exact bytes_eq (List.le_antisymm k h)
theorem ltB_asymm {a b : ByteArray} (h : ltB a b = true) : ltB b a = false := by
  cases hb : ltB b a
  · rfl
  · have := ltB_trans h hb
    rw [ltB_irrefl] at this
    cases this
/-- The order of cells: tables, rows. -/
def ltC (a b : Cl) : Bool := ltB a.t b.t || (decide (a.t = b.t) && ltB a.r b.r)
theorem ltC_iff (a b : Cl) : ltC a b = true ↔ ltB a.t b.t = true ∨ (a.t = b.t ∧ ltB a.r b.r = true) := by
  unfold ltC
  simp
theorem ltC_irrefl (a : Cl) : ltC a a = false := by
  unfold ltC
  simp [ltB_irrefl]
theorem ltC_trans {a b c : Cl} (h : ltC a b = true) (k : ltC b c = true) : ltC a c = true := by
  rw [ltC_iff] at h k ⊢
  rcases h with h | ⟨e, h⟩
  · rcases k with k | ⟨e', k⟩
    · exact .inl (ltB_trans h k)
    · exact .inl (e' ▸ h)
  · rcases k with k | ⟨e', k⟩
    · exact .inl (e ▸ k)
    · exact .inr ⟨e.trans e', ltB_trans h k⟩
theorem ltC_asymm {a b : Cl} (h : ltC a b = true) : ltC b a = false := by
  cases hb : ltC b a
  · rfl
  · have := ltC_trans h hb
    rw [ltC_irrefl] at this
    cases this
theorem ltC_total {a b : Cl} (h : ltC a b = false) (k : ltC b a = false) : a.t = b.t ∧ a.r = b.r := by
  unfold ltC at h k
  simp only [Bool.or_eq_false_iff] at h k
  have e := ltB_total h.1 k.1
  have h2 := h.2
  have k2 := k.2
  simp only [e, decide_true, Bool.true_and] at h2 k2
  exact ⟨e, ltB_total h2 k2⟩
theorem swo_ltC : SWO ltC where
  irrefl := ltC_irrefl
  trans _ _ _ h k := ltC_trans h k
  ntrans x y z h k := by
    cases hz : ltC x z
    · rfl
    · cases hyx : ltC y x
      · obtain ⟨e1, e2⟩ := ltC_total h hyx
        have : ltC x z = ltC y z := by unfold ltC; rw [e1, e2]
        rw [this, k] at hz
        cases hz
      · have := ltC_trans hyx hz
        rw [k] at this
        cases this
/-- What strings.Compare says, and the order. -/
theorem cmp_lt : ∀ a b : List UInt8, (compareBytes a b < 0 ↔ a < b) ∧ (compareBytes a b = 0 ↔ a = b)
  | [], [] => by simp [compareBytes]
  | [], y :: ys => by simp [compareBytes]
  | x :: xs, [] => by simp [compareBytes]
  | x :: xs, y :: ys => by
    have ih := cmp_lt xs ys
    unfold compareBytes
    by_cases h : x < y
    · have hne : x ≠ y := fun e => by subst e; exact UInt8.lt_irrefl x h
      simp [h, List.cons_lt_cons_iff, hne]
    · by_cases h' : y < x
      · have hne : x ≠ y := fun e => by subst e; exact UInt8.lt_irrefl x h'
        simp [h, h', List.cons_lt_cons_iff, hne]
      · have e : x = y := UInt8.le_antisymm (UInt8.not_lt.1 h') (UInt8.not_lt.1 h)
        subst e
        simp [h, ih]
/-- The program's Compare. -/
def cmpC (a b : Cl) : Int := if compareBytes a.t.data.toList b.t.data.toList ≠ 0 then compareBytes a.t.data.toList b.t.data.toList else compareBytes a.r.data.toList b.r.data.toList
theorem cmpC_lt (a b : Cl) : decide (cmpC a b < 0) = ltC a b := by
  obtain ⟨h1, h2⟩ := cmp_lt a.t.data.toList b.t.data.toList
  obtain ⟨h3, _⟩ := cmp_lt a.r.data.toList b.r.data.toList
  rw [Bool.eq_iff_iff, decide_eq_true_eq, ltC_iff]
  unfold cmpC ltB
  by_cases e : a.t = b.t
  · have z : compareBytes a.t.data.toList b.t.data.toList = 0 := h2.2 (by rw [e])
    rw [if_neg (by simp [z]), h3]
    constructor
    · intro h; exact .inr ⟨e, decide_eq_true h⟩
    · rintro (h | ⟨_, h⟩)
      · rw [e] at h
        have := decide_eq_true_iff.1 h
        exact absurd this (List.lt_irrefl _)
      · exact of_decide_eq_true h
  · have z : compareBytes a.t.data.toList b.t.data.toList ≠ 0 := fun h => e (bytes_eq (h2.1 h))
    rw [if_pos z, h1]
    constructor
    · intro h; exact .inl (decide_eq_true h)
    · rintro (h | ⟨h, _⟩)
      · exact of_decide_eq_true h
      · exact absurd h e
theorem compare_swap : ∀ a b : List UInt8, compareBytes a b = - compareBytes b a
  | [], [] => rfl
  | [], _ :: _ => by simp [compareBytes]
  | _ :: _, [] => by simp [compareBytes]
  | x :: xs, y :: ys => by
    have ih := compare_swap xs ys
    unfold compareBytes
    by_cases h : x < y
    · have h' : ¬ y < x := fun h' => UInt8.lt_irrefl x (UInt8.lt_trans h h')
      simp [h, h']
    · by_cases h' : y < x
      · simp [h, h']
      · simp [h, h', ih]
/-- All rows that there are, in order. -/
def InOrd (σ : Tab) (l : List Cl) : Prop := l.Pairwise (fun a b => ltC a b = true) ∧ ∀ c : Cl, c ∈ l ↔ σ c.t c.r = some (c.s, c.v)
theorem inOrd0 : InOrd tab0 [] := ⟨List.Pairwise.nil, fun c => by simp [tab0]⟩
theorem InOrd.eq {σ : Tab} {l m : List Cl} (h : InOrd σ l) (k : InOrd σ m) : l = m := by
  have nd : ∀ {l : List Cl}, InOrd σ l → l.Nodup := fun h => h.1.imp (fun {a b} hab e => by subst e; rw [ltC_irrefl] at hab; cases hab)
  refine List.Perm.eq_of_pairwise (le := fun a b => ltC a b = true) (fun a b _ _ h1 h2 => ?_) h.1 k.1 ((List.perm_ext_iff_of_nodup (nd h) (nd k)).2 fun c => by rw [h.2, k.2])
  have := ltC_asymm h1
  rw [h2] at this
  cases this
/-- Cells of which no two stand in one place. -/
def Apart (l : List Cl) : Prop := l.Pairwise (fun a b => ¬ (a.t = b.t ∧ a.r = b.r))
theorem apart_sym {a b : Cl} (h : ¬ (a.t = b.t ∧ a.r = b.r)) : ¬ (b.t = a.t ∧ b.r = a.r) := fun e => h ⟨e.1.symm, e.2.symm⟩
theorem InOrd.apart {σ : Tab} {l : List Cl} (h : InOrd σ l) : Apart l := h.1.imp (fun {a b} hab e => by
  have h1 := (ltC_iff a b).1 hab
  rcases h1 with h1 | ⟨_, h1⟩
  · rw [e.1, ltB_irrefl] at h1; cases h1
  · rw [e.2, ltB_irrefl] at h1; cases h1)
section
variable [Inhabited Cl]
theorem pairwise_sorted {d : Array Cl} (hs : SortedIn ltC 0 d.size d) : d.toList.Pairwise (fun a b => ltC b a = false) := by
  rw [List.pairwise_iff_getElem]
  intro i j hi hj hij
  have hi' : i < d.size := by simpa using hi
  have hj' : j < d.size := by simpa using hj
  have := hs i j (Nat.zero_le _) hij hj'
  rw [getElem!_pos d j hj', getElem!_pos d i hi'] at this
  simpa using this
theorem perm_of_permIn {d d' : Array Cl} (h : PermIn 0 d.size d d') : d'.toList.Perm d.toList := by
  obtain ⟨hsz, _, hperm⟩ := h
  have e1 : d'.extract 0 d.size = d' := by rw [← hsz]; exact Array.extract_size
  rw [e1, Array.extract_size] at hperm
  exact hperm
/-- What a sort leaves of cells that stand apart. -/
theorem inOrd_of_sorted {σ : Tab} {l : List Cl} {d' : Array Cl} (ha : Apart l) (hm : ∀ c : Cl, c ∈ l ↔ σ c.t c.r = some (c.s, c.v)) (hp : PermIn 0 l.toArray.size l.toArray d') (hs : SortedIn ltC 0 l.toArray.size d') : InOrd σ d'.toList := by
  have hperm := perm_of_permIn hp
  have hsz : d'.size = l.toArray.size := hp.1
  rw [← hsz] at hs
  have ha' : Apart d'.toList := (hperm.pairwise_iff (R := fun a b : Cl => ¬ (a.t = b.t ∧ a.r = b.r)) (fun {a b} h => apart_sym h)).2 ha
  refine ⟨?_, fun c => by rw [hperm.mem_iff]; simpa using hm c⟩
  exact (List.Pairwise.and ha' (pairwise_sorted hs)).imp (fun {a b} hab => by
    cases h : ltC a b
    · exact absurd (ltC_total h hab.2) hab.1
    · rfl)
end
theorem inOrd_short {σ : Tab} {l : List Cl} (hm : ∀ c : Cl, c ∈ l ↔ σ c.t c.r = some (c.s, c.v)) (hl : l.length ≤ 1) : InOrd σ l := by
  refine ⟨?_, hm⟩
  match l, hl with
  | [], _ => exact List.Pairwise.nil
  | [c], _ => exact List.pairwise_singleton _ _
end Go.Proofs.YtdjpghgnjcmdnaaGreatDoor
