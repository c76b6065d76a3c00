/- Texts of this proof, one behind the other. -/
import Derived.LaidEql
import Derived.Stop.Asserts
import Derived.RowKitTokens
import Derived.Maps.RangeWalk
import Derived.Sort.KeysCollected
import Derived.Sort.OwnSorted
import Derived.WalkKit
import Derived.WalkSpells
import Derived.WalkLawsBesides
import Derived.Deep.QuietTactic
import Derived.BigQuiet
import Derived.Test.YtdjpghgnjcmdnaaGreatDoorPart2
/- Errors taken apart: what the law's own look at an error comes to, of none and of one of the program's own. -/
namespace Go.Proofs.YtdjpghgnjcmdnaaGreatDoor
open Go.RowKit Go.Extern.Stop Go.Stop Go.Extern
theorem Tryz.valueOf94 (t : Addr) (w : World) : (ReflectliteValue.unpack (.iface 190 (.pointer (some t)))).run Tryz.prog w
    = .ok (.agg #[.pointer (some ⟨11, 190, none⟩), .pointer (some ⟨w.heap.size, 0, none⟩), .int .u64 150]) (w.alloc (.cells #[.pointer (some t)] 190)) := by kernel_rfl
theorem Tryz.type94 (a : Addr) (w : World) : (ReflectliteValue.methodAny (ReflectliteValue.valueError "reflectlite.Value.Type" 0) (fun t _ _ _ => ReflectliteType.toType t) #[.agg #[.pointer (some ⟨11, 190, none⟩), .pointer (some a), .int .u64 150]]).run Tryz.prog w
    = .ok (.iface 270 (.agg #[.pointer (some ⟨11, 190, none⟩)])) w := by kernel_rfl
theorem Tryz.kind94 (w : World) : ((ReflectliteType.abiMethod fun t => Functor.map (fun a : Nat => Value.int IntKind.u8 (a : Int)) (Rtype.kind t)) #[.pointer (some ⟨11, 190, none⟩)]).run Tryz.prog w = .ok (.int .u8 22) w := by kernel_rfl
theorem Tryz.kind30 (w : World) : ((ReflectliteType.abiMethod fun t => Functor.map (fun a : Nat => Value.int IntKind.u8 (a : Int)) (Rtype.kind t)) #[.pointer (some ⟨11, 25, none⟩)]).run Tryz.prog w = .ok (.int .u8 2) w := by kernel_rfl
theorem bind_run {α β : Type} {P : Program} {m : Sem α} {k : α → Sem β} {w : World} {a : α} (h : m.run P w = .ok a w) : (m >>= k).run P w = (k a).run P w := by
  rw [Sem.run_bind, h]; rfl
theorem Tryz.parts94 (a : Addr) (w : World) : (ReflectliteValue.parts (.agg #[.pointer (some ⟨11, 190, none⟩), .pointer (some a), .int .u64 150])).run Tryz.prog w = .ok (some (190, a, 150)) w := by kernel_rfl
theorem Tryz.isNil94 (a p : Addr) (W : World) (ha : W.cell? a = some (.pointer (some p))) :
    (ReflectliteValue.method (ReflectliteValue.valueError "reflectlite.Value.IsNil" 0) ReflectliteValue.isNil #[.agg #[.pointer (some ⟨11, 190, none⟩), .pointer (some a), .int .u64 150]]).run Tryz.prog W = .ok (.bool false) W := by
  refine (bind_run (Tryz.parts94 a W)).trans ?_
  simp [ReflectliteValue.isNil, loadVar, isAgg, underlying, Tryz.underlying190, ha, Result.andThen]
theorem Tryz.elem94 (w : World) : (ReflectliteType.method ReflectliteType.elem #[.agg #[.pointer (some ⟨11, 190, none⟩)]]).run Tryz.prog w = .ok (.iface 270 (.agg #[.pointer (some ⟨11, 25, none⟩)])) w := by kernel_rfl
theorem Tryz.implements30 (w : World) : (ReflectliteType.relation "Implements" ReflectliteType.implements_ #[.agg #[.pointer (some ⟨11, 25, none⟩)], .iface 270 (.agg #[.pointer (some ⟨11, 45, none⟩)])]).run Tryz.prog w = .ok (.bool true) w := by kernel_rfl
theorem Tryz.typeOf30 (v : Value) (w : World) : (ReflectliteType.typeOf #[.iface 25 v]).run Tryz.prog w = .ok (.iface 270 (.agg #[.pointer (some ⟨11, 25, none⟩)])) w := by kernel_rfl
theorem Tryz.assignable30 (w : World) : (ReflectliteType.relation "AssignableTo" ReflectliteType.assignableTo #[.agg #[.pointer (some ⟨11, 25, none⟩)], .iface 270 (.agg #[.pointer (some ⟨11, 25, none⟩)])]).run Tryz.prog w = .ok (.bool true) w := by kernel_rfl
theorem Tryz.valueOf30 (n : Int) (w : World) : (ReflectliteValue.unpack (.iface 25 (.int .i64 n))).run Tryz.prog w
    = .ok (.agg #[.pointer (some ⟨11, 25, none⟩), .pointer (some ⟨w.heap.size, 0, none⟩), .int .u64 130]) (w.alloc (.cells #[.int .i64 n] 25)) := by kernel_rfl
theorem Tryz.elemOf94 (w : World) : (Rtype.elem? 190).run Tryz.prog w = .ok (some 25) w := by kernel_rfl
theorem Tryz.mk30 (p : Addr) (w : World) : (ReflectliteValue.mk 25 p ReflectliteValue.flagAddr).run Tryz.prog w = .ok (.agg #[.pointer (some ⟨11, 25, none⟩), .pointer (some p), .int .u64 386]) w := by kernel_rfl
theorem Tryz.elemV94 (a p : Addr) (W : World) (ha : W.cell? a = some (.pointer (some p))) :
    (ReflectliteValue.method (ReflectliteValue.valueError "reflectlite.Value.Elem" 0) ReflectliteValue.elem #[.agg #[.pointer (some ⟨11, 190, none⟩), .pointer (some a), .int .u64 150]]).run Tryz.prog W
      = .ok (.agg #[.pointer (some ⟨11, 25, none⟩), .pointer (some p), .int .u64 386]) W := by
  refine (bind_run (Tryz.parts94 a W)).trans ?_
  simp [ReflectliteValue.elem, loadVar, isAgg, underlying, Tryz.underlying190, ha, Result.andThen, Tryz.elemOf94, Tryz.mk30]
theorem Tryz.parts30a (a : Addr) (w : World) : (ReflectliteValue.parts (.agg #[.pointer (some ⟨11, 25, none⟩), .pointer (some a), .int .u64 386])).run Tryz.prog w = .ok (some (25, a, 386)) w := by kernel_rfl
theorem Tryz.parts30 (a : Addr) (w : World) : (ReflectliteValue.parts (.agg #[.pointer (some ⟨11, 25, none⟩), .pointer (some a), .int .u64 130])).run Tryz.prog w = .ok (some (25, a, 130)) w := by kernel_rfl
theorem Tryz.direct30 (w : World) : (Rtype.directlyAssignable 25 25).run Tryz.prog w = .ok true w := by kernel_rfl
theorem Tryz.set30 (ta b : Addr) (n : Int) (old : Value) (W : World) (hb : W.cell? b = some (.int .i64 n)) (ht : W.cell? ta = some old) (hf : W.frozen? ta = false) :
    (ReflectliteValue.set #[.agg #[.pointer (some ⟨11, 25, none⟩), .pointer (some ta), .int .u64 386], .agg #[.pointer (some ⟨11, 25, none⟩), .pointer (some b), .int .u64 130]]).run Tryz.prog W
      = .ok (.tuple #[]) (W.setCell ta (.int .i64 n)) := by
  refine (bind_run (Tryz.parts30a ta W)).trans ?_
  refine (bind_run (Tryz.parts30 b W)).trans ?_
  simp [ReflectliteValue.flagAddr, loadVar, isAgg, underlying, Tryz.underlying25, hb, Result.andThen, Tryz.direct30, storeVar, Value.cells, storeCells, Addr.add]
  rw [run_store Tryz.prog W ta _ _ (by rfl)]
  simp [ht, hf]
theorem Tryz.methodKind (h : Value) (w : World) : (Go.method 441 270 (.agg #[h]) "Kind").run Tryz.prog w = .ok (257, h) w := by kernel_rfl
theorem Tryz.methodElem (h : Value) (w : World) : (Go.method 441 270 (.agg #[h]) "Elem").run Tryz.prog w = .ok (271, .agg #[h]) w := by kernel_rfl
theorem Tryz.methodImplements (h : Value) (w : World) : (Go.method 441 270 (.agg #[h]) "Implements").run Tryz.prog w = .ok (272, .agg #[h]) w := by kernel_rfl
theorem Tryz.methodAssignableTo (h : Value) (w : World) : (Go.method 441 270 (.agg #[h]) "AssignableTo").run Tryz.prog w = .ok (269, .agg #[h]) w := by kernel_rfl
/-- The memory behind errors.As: four new blocks, and what the target points to. -/
def asW (w : World) (t : Addr) (n : Int) : World := ((((w.alloc (.cells #[.pointer (some t)] 190)).alloc (.cells #[.pointer (some ⟨11, 190, none⟩), .pointer (some ⟨w.heap.size, 0, none⟩), .int .u64 150] 225)).alloc (.cells #[.pointer (some ⟨11, 190, none⟩), .pointer (some ⟨w.heap.size, 0, none⟩), .int .u64 150] 225)).alloc (.cells #[.int .i64 n] 25)).setCell t (.int .i64 n)
set_option maxRecDepth 100000 in
set_option maxHeartbeats 4000000 in
theorem as_hit (t : Addr) (n : Int) (old : Value) (w : World) (hg : w.cell? ⟨2, 0, none⟩ = some (.iface 270 (.agg #[.pointer (some ⟨11, 45, none⟩)]))) (ht0 : w.cell? t = some old) (hf0 : w.frozen? t = false) :
    Calls Tryz.prog 128 #[.iface 25 (.int .i64 n), .iface 190 (.pointer (some t))] w fun ev w' => ev = .returned (.bool true) ∧ w' = asW w t n := by
  unfold asW
  have h58 := @run_callFunc_extern Tryz.prog 165 _ (fun args => ReflectliteValue.unpack (args.getD 0 (.tuple #[]))) Tryz.func165 (by kernel_rfl) (by kernel_rfl) (by kernel_rfl) (by kernel_rfl)
  have h59 := @run_callFunc_extern Tryz.prog 166 _ (ReflectliteValue.methodAny (ReflectliteValue.valueError "reflectlite.Value.Type" 0) (fun t _ _ _ => ReflectliteType.toType t)) Tryz.func166 (by kernel_rfl) (by kernel_rfl) (by kernel_rfl) (by kernel_rfl)
  have h60 := @run_callFunc_extern Tryz.prog 167 _ (ReflectliteValue.method (ReflectliteValue.valueError "reflectlite.Value.IsNil" 0) ReflectliteValue.isNil) Tryz.func167 (by kernel_rfl) (by kernel_rfl) (by kernel_rfl) (by kernel_rfl)
  have h81 := @run_callFunc_extern Tryz.prog 257 _ (ReflectliteType.abiMethod fun t => do pure (.int .u8 (← Rtype.kind t))) Tryz.func257 (by kernel_rfl) (by kernel_rfl) (by kernel_rfl) (by kernel_rfl)
  have h93 := @run_callFunc_extern Tryz.prog 271 _ (ReflectliteType.method ReflectliteType.elem) Tryz.func271 (by kernel_rfl) (by kernel_rfl) (by kernel_rfl) (by kernel_rfl)
  have h94 := @run_callFunc_extern Tryz.prog 272 _ (ReflectliteType.relation "Implements" ReflectliteType.implements_) Tryz.func272 (by kernel_rfl) (by kernel_rfl) (by kernel_rfl) (by kernel_rfl)
  have h64 := @run_callFunc_extern Tryz.prog 163 _ ReflectliteType.typeOf Tryz.func163 (by kernel_rfl) (by kernel_rfl) (by kernel_rfl) (by kernel_rfl)
  have h91 := @run_callFunc_extern Tryz.prog 269 _ (ReflectliteType.relation "AssignableTo" ReflectliteType.assignableTo) Tryz.func269 (by kernel_rfl) (by kernel_rfl) (by kernel_rfl) (by kernel_rfl)
  have h65 := @run_callFunc_extern Tryz.prog 211 _ (ReflectliteValue.method (ReflectliteValue.valueError "reflectlite.Value.Elem" 0) ReflectliteValue.elem) Tryz.func211 (by kernel_rfl) (by kernel_rfl) (by kernel_rfl) (by kernel_rfl)
  have h66 := @run_callFunc_extern Tryz.prog 212 _ ReflectliteValue.set Tryz.func212 (by kernel_rfl) (by kernel_rfl) (by kernel_rfl) (by kernel_rfl)
  have tO := Tryz.typeOf30
  have mA := Tryz.methodAssignableTo
  have a30 := Tryz.assignable30
  have v30 := Tryz.valueOf30
  have f94 := Tryz.valueOf94
  have f7 := Tryz.type94
  have mK := Tryz.methodKind
  have mE := Tryz.methodElem
  have mI := Tryz.methodImplements
  have k94 := Tryz.kind94
  have k30 := Tryz.kind30
  have e94 := Tryz.elem94
  have i30 := Tryz.implements30
  have n8 := Tryz.isNil94 ⟨w.heap.size, 0, none⟩ t ((w.alloc (.cells #[.pointer (some t)] 190)).alloc (.cells #[.pointer (some ⟨11, 190, none⟩), .pointer (some ⟨w.heap.size, 0, none⟩), .int .u64 150] 225)) (by simp)
  have hlt : 2 < w.heap.size := block_lt_of_cell hg
  have hg2 : ((w.alloc (.cells #[.pointer (some t)] 190)).alloc (.cells #[.pointer (some ⟨11, 190, none⟩), .pointer (some ⟨w.heap.size, 0, none⟩), .int .u64 150] 225)).cell? ⟨2, 0, none⟩ = some (.iface 270 (.agg #[.pointer (some ⟨11, 45, none⟩)])) := by
    rw [World.cell?_alloc_lt _ _ ⟨2, 0, none⟩ (by simp <;> omega), World.cell?_alloc_lt _ _ ⟨2, 0, none⟩ hlt]; exact hg
  have htl : t.block < w.heap.size := block_lt_of_cell ht0
  have el := Tryz.elemV94 ⟨w.heap.size, 0, none⟩ t (((w.alloc (.cells #[.pointer (some t)] 190)).alloc (.cells #[.pointer (some ⟨11, 190, none⟩), .pointer (some ⟨w.heap.size, 0, none⟩), .int .u64 150] 225)).alloc (.cells #[.pointer (some ⟨11, 190, none⟩), .pointer (some ⟨w.heap.size, 0, none⟩), .int .u64 150] 225)) (by rw [World.cell?_alloc_lt _ _ ⟨w.heap.size, 0, none⟩ (by simp; omega)]; simp)
  have st := Tryz.set30 t ⟨w.heap.size + 1 + 1 + 1, 0, none⟩ n old ((((w.alloc (.cells #[.pointer (some t)] 190)).alloc (.cells #[.pointer (some ⟨11, 190, none⟩), .pointer (some ⟨w.heap.size, 0, none⟩), .int .u64 150] 225)).alloc (.cells #[.pointer (some ⟨11, 190, none⟩), .pointer (some ⟨w.heap.size, 0, none⟩), .int .u64 150] 225)).alloc (.cells #[.int .i64 n] 25))
    (by rw [World.cell?_alloc_at _ _ _ _ (by simp)]; rfl)
    (by rw [World.cell?_alloc_lt _ _ t (by simp; omega), World.cell?_alloc_lt _ _ t (by simp; omega), World.cell?_alloc_lt _ _ t (by simp; omega), World.cell?_alloc_lt _ _ t htl]; exact ht0)
    (by rw [World.frozen?_alloc_old _ _ t (by simp; omega), World.frozen?_alloc_old _ _ t (by simp; omega), World.frozen?_alloc_old _ _ t (by simp; omega), World.frozen?_alloc_old _ _ t (Nat.ne_of_lt htl)]; exact hf0)
  go_enter Tryz.func128, Tryz.ntmps128
  go_wp2
  refine wp_loop_rounds 1 ?_
  rw [rounds_succ]
  go_wp2
  go_ret
  exact ⟨rfl, rfl⟩
end Go.Proofs.YtdjpghgnjcmdnaaGreatDoor

/- The law's own look at an error: none, and the program's own. -/
namespace Go.Proofs.YtdjpghgnjcmdnaaGreatDoor
open Go.RowKit Go.Extern.Stop Go.Stop Go.Extern
/-- The library's own variable lies where it was laid. -/
def TabE (w : World) : Prop := w.cell? ⟨2, 0, none⟩ = some (.iface 270 (.agg #[.pointer (some ⟨11, 45, none⟩)]))
theorem TabE.lt {w : World} (h : TabE w) : 2 < w.heap.size := block_lt_of_cell h
theorem TabE.below {w w' : World} {B : Nat} (h : TabE w) (hb : Below B w w') (hB : 2 < B) : TabE w' := by
  unfold TabE
  rw [hb.cell (p := ⟨2, 0, none⟩) hB]; exact h
theorem asW_below (w : World) (b : Nat) (n : Int) (hb : b ≤ w.heap.size) : Below b w (asW w ⟨b, 0, none⟩ n) := by
  unfold asW
  exact (((((Below.refl b w).alloc hb _).alloc (by simp; omega) _).alloc (by simp; omega) _).alloc (by simp; omega) _).setCell (Nat.le_refl _) _
theorem Tryz.un79 (n : Int) (w : World) : (Instr.typeAssert (.iface 25 (.int .i64 n)) 45 275 true).run Tryz.prog w = .ok (.tuple #[.nilIface, .bool false]) w := run_typeAssert_lacksB Tryz.underlying275 (by kernel_rfl) (by kernel_rfl) _ _ _
set_option maxRecDepth 100000 in
set_option maxHeartbeats 400000 in
theorem tell_nil (w : World) : Calls Tryz.prog 85 #[.nilIface] w fun e w' => e = .returned (.int .i64 0) ∧ w' = w := by
  go_enter Tryz.func85, Tryz.ntmps85
  go_wp2
  go_ret
  exact ⟨rfl, rfl⟩
set_option maxRecDepth 100000 in
set_option maxHeartbeats 400000 in
theorem tell_arg (n : Int) (w : World) (hE : TabE w) : Calls Tryz.prog 85 #[.iface 25 (.int .i64 n)] w fun e w' => e = .returned (.int .i64 n) ∧ Below w.heap.size w w' := by
  have hl := hE.lt
  have q := as_hit ⟨w.heap.size, 0, none⟩ n (.int .i64 0) (w.alloc (.cells #[.int .i64 0] 25)) (by rw [World.cell?_alloc_lt _ _ ⟨2, 0, none⟩ hl]; exact hE) (by simp) (by simp)
  have hb := asW_below (w.alloc (.cells #[.int .i64 0] 25)) w.heap.size n (by simp)
  have hc : (asW (w.alloc (.cells #[.int .i64 0] 25)) ⟨w.heap.size, 0, none⟩ n).cell? ⟨w.heap.size, 0, none⟩ = some (.int .i64 n) := by
    unfold asW
    refine World.cell?_setCell_same _ _ _ (u := .int .i64 0) ?_
    rw [World.cell?_alloc_lt _ _ ⟨w.heap.size, 0, none⟩ (by simp; omega), World.cell?_alloc_lt _ _ ⟨w.heap.size, 0, none⟩ (by simp; omega), World.cell?_alloc_lt _ _ ⟨w.heap.size, 0, none⟩ (by simp; omega), World.cell?_alloc_lt _ _ ⟨w.heap.size, 0, none⟩ (by simp)]
    simp
  generalize asW (w.alloc (.cells #[.int .i64 0] 25)) ⟨w.heap.size, 0, none⟩ n = W at q hb hc
  have Q := hide q
  clear q
  go_enter Tryz.func85, Tryz.ntmps85
  go_wp2_with (go_at_call 128; refine Q.out.mono ?_; rintro e w1 ⟨rfl, rfl⟩)
  go_ret
  exact ⟨rfl, ((Below.refl _ w).alloc (Nat.le_refl _) _).trans hb⟩
end Go.Proofs.YtdjpghgnjcmdnaaGreatDoor

/- What a vault keeps of its subjects, as plain mathematics: how many keys each ever had, and whether it has the last one; and what maps that say so read as. -/
namespace Go.Proofs.YtdjpghgnjcmdnaaGreatDoor
open Go.RowKit Go.Maps
/-- Of each subject how many keys it ever had, and whether it has the last one. -/
abbrev Kept := List UInt8 → Nat × Bool
def kept0 : Kept := fun _ => (0, false)
/-- A subject has a key: a new one, if it had none. -/
def made (σ : Kept) (s : List UInt8) : Kept := fun l => if l = s then (if (σ s).2 then σ s else ((σ s).1 + 1, true)) else σ l
/-- It has none. -/
def gone (σ : Kept) (s : List UInt8) : Kept := fun l => if l = s then ((σ s).1, false) else σ l
theorem made_held {σ : Kept} {s : List UInt8} (h : (σ s).2 = true) : made σ s = σ := by
  funext l
  unfold made
  rw [if_pos h]
  split
  · rename_i e; rw [e]
  · rfl
theorem gone_none {σ : Kept} {s : List UInt8} (h : (σ s).2 = false) : gone σ s = σ := by
  funext l
  unfold gone
  split
  · rename_i e; rw [e, ← h]
  · rfl
theorem made_few {σ : Kept} {s : List UInt8} {n : Nat} (h : ∀ l, (σ l).1 ≤ n) : ∀ l, (made σ s l).1 ≤ n + 1 := by
  intro l
  unfold made
  have h1 := h s
  have h2 := h l
  split
  · split
    · omega
    · show (σ s).1 + 1 ≤ n + 1; omega
  · omega
theorem gone_few {σ : Kept} {s : List UInt8} {n : Nat} (h : ∀ l, (σ l).1 ≤ n) : ∀ l, (gone σ s l).1 ≤ n := by
  intro l
  unfold gone
  split
  · exact h s
  · exact h l
/-- The document's two maps, and the program's one. -/
def HadIs (D : DataW Unit) (σ : Kept) : Prop := IsMap D ∧ ∀ l, D.atKey (.string l) (.lit (.int .i64 0)) = .lit (.int .i64 ((σ l).1 : Int))
def HasIs (D : DataW Unit) (σ : Kept) : Prop := IsMap D ∧ ∀ l, D.atKey (.string l) (.lit (.bool false)) = .lit (.bool (σ l).2)
/-- What a subject's holding reads as. -/
def holdD (n : Nat) (k : List UInt8) : DataW Unit := .agg [.lit (.int .i64 (n : Int)), .lit (.string k)]
def keyOr (key : List UInt8 → Nat → List UInt8) (σ : Kept) (l : List UInt8) : List UInt8 := if (σ l).2 then key l (σ l).1 else []
def HeldIs (key : List UInt8 → Nat → List UInt8) (D : DataW Unit) (σ : Kept) : Prop := IsMap D ∧ ∀ l, D.atKey (.string l) (holdD 0 []) = holdD (σ l).1 (keyOr key σ l)
theorem strKey (s : List UInt8) : WideAt.IsKeyLit (.string s) := trivial
theorem strNe {l s : List UInt8} (h : l ≠ s) : Lit.string l ≠ .string s := fun e => h (by cases e; rfl)
theorem atKey_put {D : DataW Unit} (hD : IsMap D) (s l : List UInt8) (d z : DataW Unit) : (D.put (.string s) d).atKey (.string l) z = if l = s then d else D.atKey (.string l) z := by
  by_cases h : l = s
  · rw [if_pos h, h, atKey_put_same hD (strKey s)]
  · rw [if_neg h, atKey_put_other (strNe h)]
theorem hadIs0 : HadIs (.map []) kept0 := ⟨isMap_empty, fun _ => rfl⟩
theorem hasIs0 : HasIs (.map []) kept0 := ⟨isMap_empty, fun _ => rfl⟩
theorem heldIs0 (key : List UInt8 → Nat → List UInt8) : HeldIs key (.map []) kept0 := ⟨isMap_empty, fun _ => rfl⟩
theorem HadIs.made {D : DataW Unit} {σ : Kept} (h : HadIs D σ) {s : List UInt8} (hs : (σ s).2 = false) : HadIs (D.put (.string s) (.lit (.int .i64 ((σ s).1 + 1 : Int)))) (made σ s) := by
  refine ⟨h.1.put _ _, fun l => ?_⟩
  rw [atKey_put h.1]
  unfold YtdjpghgnjcmdnaaGreatDoor.made
  split
  · rw [if_neg (by rw [hs]; decide)]; rfl
  · exact h.2 l
theorem HasIs.made {D : DataW Unit} {σ : Kept} (h : HasIs D σ) {s : List UInt8} (hs : (σ s).2 = false) : HasIs (D.put (.string s) (.lit (.bool true))) (made σ s) := by
  refine ⟨h.1.put _ _, fun l => ?_⟩
  rw [atKey_put h.1]
  unfold YtdjpghgnjcmdnaaGreatDoor.made
  split
  · rw [if_neg (by rw [hs]; decide)]
  · exact h.2 l
theorem HeldIs.made {key : List UInt8 → Nat → List UInt8} {D : DataW Unit} {σ : Kept} (h : HeldIs key D σ) {s : List UInt8} (hs : (σ s).2 = false) : HeldIs key (D.put (.string s) (holdD ((σ s).1 + 1) (key s ((σ s).1 + 1)))) (made σ s) := by
  refine ⟨h.1.put _ _, fun l => ?_⟩
  rw [atKey_put h.1]
  have hm : YtdjpghgnjcmdnaaGreatDoor.made σ s l = if l = s then ((σ s).1 + 1, true) else σ l := by
    unfold YtdjpghgnjcmdnaaGreatDoor.made
    rw [hs]
    rfl
  unfold keyOr
  rw [hm]
  split
  · rename_i e; rw [e]; rfl
  · exact h.2 l
theorem HadIs.gone {D : DataW Unit} {σ : Kept} (h : HadIs D σ) (s : List UInt8) : HadIs D (gone σ s) := by
  refine ⟨h.1, fun l => ?_⟩
  rw [h.2 l]
  unfold YtdjpghgnjcmdnaaGreatDoor.gone
  split
  · rename_i e; rw [e]
  · rfl
theorem HasIs.gone {D : DataW Unit} {σ : Kept} (h : HasIs D σ) (s : List UInt8) : HasIs (D.put (.string s) (.lit (.bool false))) (gone σ s) := by
  refine ⟨h.1.put _ _, fun l => ?_⟩
  rw [atKey_put h.1]
  unfold YtdjpghgnjcmdnaaGreatDoor.gone
  split
  · rfl
  · exact h.2 l
theorem HeldIs.gone {key : List UInt8 → Nat → List UInt8} {D : DataW Unit} {σ : Kept} (h : HeldIs key D σ) (s : List UInt8) : HeldIs key (D.put (.string s) (holdD (σ s).1 [])) (gone σ s) := by
  refine ⟨h.1.put _ _, fun l => ?_⟩
  rw [atKey_put h.1]
  unfold keyOr YtdjpghgnjcmdnaaGreatDoor.gone
  split
  · rfl
  · exact h.2 l
theorem HasIs.has {D : DataW Unit} {σ : Kept} (h : HasIs D σ) (l : List UInt8) (hl : (σ l).2 = true) : Maps.has D (.string l) = true := by
  cases hh : Maps.has D (.string l)
  · have h1 := h.2 l
    rw [atKey_of_not_has hh, hl] at h1
    simp at h1
  · rfl
theorem HeldIs.has {key : List UInt8 → Nat → List UInt8} {D : DataW Unit} {σ : Kept} (h : HeldIs key D σ) (hk : ∀ l n, key l n ≠ []) (l : List UInt8) (hl : (σ l).2 = true) : Maps.has D (.string l) = true := by
  cases hh : Maps.has D (.string l)
  · have h1 := h.2 l
    rw [atKey_of_not_has hh] at h1
    simp only [holdD, keyOr, hl, if_true, DataW.agg.injEq, List.cons.injEq, DataW.lit.injEq, Lit.string.injEq, and_true] at h1
    exact absurd h1.2.symm (hk _ _)
  · rfl
/-- Of those that have a key: which ones a loop has met, in whatever order. -/
def Gathered (σ : Kept) (left : Lit → Bool) (ss : List (List UInt8)) : Prop := ss.Nodup ∧ ∀ x, x ∈ ss ↔ ((σ x).2 = true ∧ left (.string x) = false)
theorem Gathered.start {σ : Kept} {D : DataW Unit} (h : ∀ x, (σ x).2 = true → Maps.has D (.string x) = true) : Gathered σ (Maps.has D) [] :=
  ⟨List.nodup_nil, fun x => ⟨fun hx => by simp at hx, fun ⟨h1, h2⟩ => by rw [h x h1] at h2; cases h2⟩⟩
theorem Gathered.step_in {σ : Kept} {left : Lit → Bool} {ss : List (List UInt8)} (h : Gathered σ left ss) {x : List UInt8} (hlk : left (.string x) = true) (hx : (σ x).2 = true) : Gathered σ (fun z => left z && !z.sameKey (.string x)) (ss ++ [x]) := by
  have hnew : x ∉ ss := fun hm => by have := ((h.2 x).1 hm).2; rw [hlk] at this; cases this
  refine ⟨List.nodup_append.2 ⟨h.1, by simp, fun a ha b hb => by simp at hb; subst hb; exact fun e => hnew (e ▸ ha)⟩, fun y => ?_⟩
  by_cases hy : y = x
  · subst hy; simp [hx, Lit.sameKey]
  · simp [h.2 y, hy, Lit.sameKey]
theorem Gathered.step_out {σ : Kept} {left : Lit → Bool} {ss : List (List UInt8)} (h : Gathered σ left ss) {x : List UInt8} (hx : (σ x).2 = false) : Gathered σ (fun z => left z && !z.sameKey (.string x)) ss := by
  refine ⟨h.1, fun y => ?_⟩
  by_cases hy : y = x
  · subst hy; simp [h.2 y, hx]
  · simp [h.2 y, hy, Lit.sameKey]
/-- All that have a key, in order. -/
def InOrder (σ : Kept) (ts : List (List UInt8)) : Prop := ∃ ss : List (List UInt8), ss.Nodup ∧ (∀ x, x ∈ ss ↔ (σ x).2 = true) ∧ ts = ss.mergeSort (fun x y => decide (x ≤ y))
theorem Gathered.inOrder {σ : Kept} {left : Lit → Bool} {ss : List (List UInt8)} (h : Gathered σ left ss) (hl : ∀ kl, left kl = false) : InOrder σ (ss.mergeSort (fun x y => decide (x ≤ y))) :=
  ⟨ss, h.1, fun x => by rw [h.2 x, hl]; simp, rfl⟩
theorem InOrder.eq {σ : Kept} {ts us : List (List UInt8)} (h : InOrder σ ts) (h' : InOrder σ us) : ts = us := by
  obtain ⟨ss, n1, m1, rfl⟩ := h
  obtain ⟨ss', n2, m2, rfl⟩ := h'
  exact mergeSort_of_perm ((List.perm_ext_iff_of_nodup n1 n2).2 fun x => by rw [m1, m2])
theorem inOrder0 : InOrder kept0 [] := ⟨[], List.nodup_nil, fun x => by simp [kept0], by simp⟩
/-- How a subject's holding reads: a number and a text, side by side. -/
def holdElem (v : Value) : Option (DataW Unit × List MemPlace) :=
  match v with
  | .agg cs => match cs.toList with
    | [.int .i64 n, .string s] => some (.agg [.lit (.int .i64 n), .lit (.string s.data.toList)], [])
    | _ => none
  | _ => none
theorem holdElem_mk (n : Int) (s : ByteArray) : holdElem (.agg #[.int .i64 n, .string s]) = some (.agg [.lit (.int .i64 n), .lit (.string s.data.toList)], []) := rfl
theorem holdElem_inv {v : Value} {y : DataW Unit × List MemPlace} (h : holdElem v = some y) : ∃ n s, v = .agg #[.int .i64 n, .string s] ∧ y = (.agg [.lit (.int .i64 n), .lit (.string s.data.toList)], []) := by
  unfold holdElem at h
  split at h
  · rename_i cs
    split at h
    · rename_i n s hcs
      cases h
      exact ⟨n, s, by rw [← Array.toArray_toList (xs := cs), hcs], rfl⟩
    · cases h
  · cases h
theorem holdElem_is {v : Value} {n : Nat} {k : List UInt8} {ps : List MemPlace} (h : holdElem v = some (holdD n k, ps)) : v = .agg #[.int .i64 n, .string ⟨k.toArray⟩] := by
  obtain ⟨a, s, rfl, e⟩ := holdElem_inv h
  simp only [holdD, Prod.mk.injEq, DataW.agg.injEq, List.cons.injEq, DataW.lit.injEq, Lit.int.injEq, Lit.string.injEq, and_true, true_and] at e
  rw [← e.1.1, e.1.2]
theorem boolElem_is {P : Program} {e : TypeId} (he : P.underlying e = some .bool) {v : Value} {x : Bool} {ps : List MemPlace} (h : plainElem (H := Unit) P e v = some (.lit (.bool x), ps)) : v = .bool x := by
  unfold plainElem at h
  rw [he] at h
  cases v <;> simp at h
  rw [h.1]
theorem boolElem_inv {P : Program} {e : TypeId} (he : P.underlying e = some .bool) {v : Value} {y : DataW Unit × List MemPlace} (h : plainElem P e v = some y) : ∃ x, v = .bool x ∧ y = (.lit (.bool x), []) := by
  unfold plainElem at h
  rw [he] at h
  cases v <;> simp at h
  exact ⟨_, rfl, h.symm⟩
theorem intElem_is {P : Program} {e : TypeId} (he : P.underlying e = some (.int .i64)) {v : Value} {x : Int} {ps : List MemPlace} (h : plainElem (H := Unit) P e v = some (.lit (.int .i64 x), ps)) : v = .int .i64 x := by
  obtain ⟨a, rfl, e1, _⟩ := plainElem_int_inv he h
  cases e1
  rfl
/-- A look-up in a map, at the operation, where what is there is known. -/
theorem lookup_at {P : Program} (w : World) {ops : Array Oper} {rest : List Oper} {o : Oper} {a : Act} {Q : Exit → Act → World → Prop}
    (hg : o.guard = none) (m x : Operand) (t : TypeId) (hop : o.op = Op.lookup t m x false)
    (k e : TypeId) (K : Keyed P k) (ht : P.underlying t = some (.map k e)) (R : Value → Option (DataW Unit × List MemPlace)) {z : Value} (hz : (zeroValue e).run P w = .ok z w) (zd : DataW Unit) (zp : List MemPlace) (hzd : R z = some (zd, zp)) (b n : Nat) (D : DataW Unit)
    (hm : a.eval m = .map (some b)) (hown : w.ownsMap P k R b n D) (key : Value) (kl : Lit) (hx : a.eval x = key) (hkey : keyOf P k key = some kl)
    (v : Value) (hv : ∀ u ps, R u = some (D.atKey kl zd, ps) → u = v) (hK : wpList P ops Q rest (a.put o.dst v) w) :
    wpList P ops Q (o :: rest) a w := by
  refine wpList_plain hg fun K' hK' => ?_
  obtain ⟨u, ps, hrun, hu⟩ := hown.lookup K ht hz hzd hkey
  obtain rfl := hv u ps hu
  unfold Oper.wp
  simp [execOp, hop, hm, hx, hrun, Result.andThen]
  exact hK' _ _ hK
end Go.Proofs.YtdjpghgnjcmdnaaGreatDoor

/- What turning a word comes to: the program's own 'right' and the document's 'rot', at the ten counts that they are called with. -/
namespace Go.Proofs.YtdjpghgnjcmdnaaGreatDoor
open Go.RowKit
set_option maxHeartbeats 400000 in
theorem right_2 (x : BitVec 32) (w : World) :
    Calls Tryz.prog 221 #[.int .u32 (N x), .int .i64 2] w fun e w' => e = .returned (.int .u32 (N (rr x 2))) ∧ w' = w := by
  have hb : bits .and .u64 (IntKind.u64.wrap (-2)) 31 = 30 := by decide +kernel
  have r0 : (N x * (1073741824 : Int) % (4294967296 : Int)) = N (x <<< 30) := N_shlm x 30
  have r1 : (N x / (4 : Int)) = N (x >>> 2) := N_shr x 2
  have r2 := N_or
  go_enter Tryz.func221, Tryz.ntmps221
  go_wp2
  go_ret
  exact ⟨ret_val (by show Value.int .u32 (N (x <<< 30 ||| x >>> 2)) = _; rfl), rfl⟩

set_option maxHeartbeats 400000 in
theorem right_6 (x : BitVec 32) (w : World) :
    Calls Tryz.prog 221 #[.int .u32 (N x), .int .i64 6] w fun e w' => e = .returned (.int .u32 (N (rr x 6))) ∧ w' = w := by
  have hb : bits .and .u64 (IntKind.u64.wrap (-6)) 31 = 26 := by decide +kernel
  have r0 : (N x * (67108864 : Int) % (4294967296 : Int)) = N (x <<< 26) := N_shlm x 26
  have r1 : (N x / (64 : Int)) = N (x >>> 6) := N_shr x 6
  have r2 := N_or
  go_enter Tryz.func221, Tryz.ntmps221
  go_wp2
  go_ret
  exact ⟨ret_val (by show Value.int .u32 (N (x <<< 26 ||| x >>> 6)) = _; rfl), rfl⟩

set_option maxHeartbeats 400000 in
theorem right_7 (x : BitVec 32) (w : World) :
    Calls Tryz.prog 221 #[.int .u32 (N x), .int .i64 7] w fun e w' => e = .returned (.int .u32 (N (rr x 7))) ∧ w' = w := by
  have hb : bits .and .u64 (IntKind.u64.wrap (-7)) 31 = 25 := by decide +kernel
  have r0 : (N x * (33554432 : Int) % (4294967296 : Int)) = N (x <<< 25) := N_shlm x 25
  have r1 : (N x / (128 : Int)) = N (x >>> 7) := N_shr x 7
  have r2 := N_or
  go_enter Tryz.func221, Tryz.ntmps221
  go_wp2
  go_ret
  exact ⟨ret_val (by show Value.int .u32 (N (x <<< 25 ||| x >>> 7)) = _; rfl), rfl⟩

set_option maxHeartbeats 400000 in
theorem right_11 (x : BitVec 32) (w : World) :
    Calls Tryz.prog 221 #[.int .u32 (N x), .int .i64 11] w fun e w' => e = .returned (.int .u32 (N (rr x 11))) ∧ w' = w := by
  have hb : bits .and .u64 (IntKind.u64.wrap (-11)) 31 = 21 := by decide +kernel
  have r0 : (N x * (2097152 : Int) % (4294967296 : Int)) = N (x <<< 21) := N_shlm x 21
  have r1 : (N x / (2048 : Int)) = N (x >>> 11) := N_shr x 11
  have r2 := N_or
  go_enter Tryz.func221, Tryz.ntmps221
  go_wp2
  go_ret
  exact ⟨ret_val (by show Value.int .u32 (N (x <<< 21 ||| x >>> 11)) = _; rfl), rfl⟩

set_option maxHeartbeats 400000 in
theorem right_13 (x : BitVec 32) (w : World) :
    Calls Tryz.prog 221 #[.int .u32 (N x), .int .i64 13] w fun e w' => e = .returned (.int .u32 (N (rr x 13))) ∧ w' = w := by
  have hb : bits .and .u64 (IntKind.u64.wrap (-13)) 31 = 19 := by decide +kernel
  have r0 : (N x * (524288 : Int) % (4294967296 : Int)) = N (x <<< 19) := N_shlm x 19
  have r1 : (N x / (8192 : Int)) = N (x >>> 13) := N_shr x 13
  have r2 := N_or
  go_enter Tryz.func221, Tryz.ntmps221
  go_wp2
  go_ret
  exact ⟨ret_val (by show Value.int .u32 (N (x <<< 19 ||| x >>> 13)) = _; rfl), rfl⟩

set_option maxHeartbeats 400000 in
theorem right_17 (x : BitVec 32) (w : World) :
    Calls Tryz.prog 221 #[.int .u32 (N x), .int .i64 17] w fun e w' => e = .returned (.int .u32 (N (rr x 17))) ∧ w' = w := by
  have hb : bits .and .u64 (IntKind.u64.wrap (-17)) 31 = 15 := by decide +kernel
  have r0 : (N x * (32768 : Int) % (4294967296 : Int)) = N (x <<< 15) := N_shlm x 15
  have r1 : (N x / (131072 : Int)) = N (x >>> 17) := N_shr x 17
  have r2 := N_or
  go_enter Tryz.func221, Tryz.ntmps221
  go_wp2
  go_ret
  exact ⟨ret_val (by show Value.int .u32 (N (x <<< 15 ||| x >>> 17)) = _; rfl), rfl⟩

set_option maxHeartbeats 400000 in
theorem right_18 (x : BitVec 32) (w : World) :
    Calls Tryz.prog 221 #[.int .u32 (N x), .int .i64 18] w fun e w' => e = .returned (.int .u32 (N (rr x 18))) ∧ w' = w := by
  have hb : bits .and .u64 (IntKind.u64.wrap (-18)) 31 = 14 := by decide +kernel
  have r0 : (N x * (16384 : Int) % (4294967296 : Int)) = N (x <<< 14) := N_shlm x 14
  have r1 : (N x / (262144 : Int)) = N (x >>> 18) := N_shr x 18
  have r2 := N_or
  go_enter Tryz.func221, Tryz.ntmps221
  go_wp2
  go_ret
  exact ⟨ret_val (by show Value.int .u32 (N (x <<< 14 ||| x >>> 18)) = _; rfl), rfl⟩

set_option maxHeartbeats 400000 in
theorem right_19 (x : BitVec 32) (w : World) :
    Calls Tryz.prog 221 #[.int .u32 (N x), .int .i64 19] w fun e w' => e = .returned (.int .u32 (N (rr x 19))) ∧ w' = w := by
  have hb : bits .and .u64 (IntKind.u64.wrap (-19)) 31 = 13 := by decide +kernel
  have r0 : (N x * (8192 : Int) % (4294967296 : Int)) = N (x <<< 13) := N_shlm x 13
  have r1 : (N x / (524288 : Int)) = N (x >>> 19) := N_shr x 19
  have r2 := N_or
  go_enter Tryz.func221, Tryz.ntmps221
  go_wp2
  go_ret
  exact ⟨ret_val (by show Value.int .u32 (N (x <<< 13 ||| x >>> 19)) = _; rfl), rfl⟩

set_option maxHeartbeats 400000 in
theorem right_22 (x : BitVec 32) (w : World) :
    Calls Tryz.prog 221 #[.int .u32 (N x), .int .i64 22] w fun e w' => e = .returned (.int .u32 (N (rr x 22))) ∧ w' = w := by
  have hb : bits .and .u64 (IntKind.u64.wrap (-22)) 31 = 10 := by decide +kernel
  have r0 : (N x * (1024 : Int) % (4294967296 : Int)) = N (x <<< 10) := N_shlm x 10
  have r1 : (N x / (4194304 : Int)) = N (x >>> 22) := N_shr x 22
  have r2 := N_or
  go_enter Tryz.func221, Tryz.ntmps221
  go_wp2
  go_ret
  exact ⟨ret_val (by show Value.int .u32 (N (x <<< 10 ||| x >>> 22)) = _; rfl), rfl⟩

set_option maxHeartbeats 400000 in
theorem right_25 (x : BitVec 32) (w : World) :
    Calls Tryz.prog 221 #[.int .u32 (N x), .int .i64 25] w fun e w' => e = .returned (.int .u32 (N (rr x 25))) ∧ w' = w := by
  have hb : bits .and .u64 (IntKind.u64.wrap (-25)) 31 = 7 := by decide +kernel
  have r0 : (N x * (128 : Int) % (4294967296 : Int)) = N (x <<< 7) := N_shlm x 7
  have r1 : (N x / (33554432 : Int)) = N (x >>> 25) := N_shr x 25
  have r2 := N_or
  go_enter Tryz.func221, Tryz.ntmps221
  go_wp2
  go_ret
  exact ⟨ret_val (by show Value.int .u32 (N (x <<< 7 ||| x >>> 25)) = _; rfl), rfl⟩

def turns (k : Int) : Bool := [2, 6, 7, 11, 13, 17, 18, 19, 22, 25].contains k
theorem turns_cases {k : Int} (h : turns k = true) : k = 2 ∨ k = 6 ∨ k = 7 ∨ k = 11 ∨ k = 13 ∨ k = 17 ∨ k = 18 ∨ k = 19 ∨ k = 22 ∨ k = 25 := by
  simpa [turns] using h
theorem right_any (x : BitVec 32) (k : Int) (w : World) (h : turns k = true) :
    Calls Tryz.prog 221 #[.int .u32 (N x), .int .i64 k] w fun e w' => e = .returned (.int .u32 (N (rr x k.toNat))) ∧ w' = w := by
  rcases turns_cases h with rfl | rfl | rfl | rfl | rfl | rfl | rfl | rfl | rfl | rfl
  · exact right_2 x w
  · exact right_6 x w
  · exact right_7 x w
  · exact right_11 x w
  · exact right_13 x w
  · exact right_17 x w
  · exact right_18 x w
  · exact right_19 x w
  · exact right_22 x w
  · exact right_25 x w
end Go.Proofs.YtdjpghgnjcmdnaaGreatDoor
