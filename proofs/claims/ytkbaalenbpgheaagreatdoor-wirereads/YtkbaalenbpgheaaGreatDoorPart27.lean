/- Texts of this proof, one behind the other. -/
import Derived.Laws.StructEq
import Derived.Shelf.SlicesQ.Equal
import Derived.LaidEql
import Derived.Stop.Asserts
import Derived.RowKitTokens
import Derived.Test.YtkbaalenbpgheaaGreatDoorPart26
/- Cells held against each other, one by one and in rows; a fact: rows. -/
namespace Go.Proofs.YtkbaalenbpgheaaGreatDoor
open Go.RowKit Go.Sort
attribute [local go_sem ↓] Go.wp_at_zero Go.wp_at_succ
set_option linter.unusedSectionVars false
variable [Inhabited Cl]
theorem held42 : Tryz.prog.stoodInHeld 42 = false := by kernel_rfl
theorem fields42 : Tryz.prog.underlying 42 = some (.struct (Tryz.prog.fieldsOf 42)) := by kernel_rfl
theorem guard42 : Tryz.prog.eqGuardType Tryz.prog.depth 42 = false := by kernel_rfl
def eqC (x y : Cl) : Bool := (x.t.toList == y.t.toList) && ((x.r.toList == y.r.toList) && ((x.s.toList == y.s.toList) && (x.v.toList == y.v.toList)))
theorem eqC_iff {x y : Cl} : eqC x y = true ↔ x = y := by
  unfold eqC
  rw [same_bytes, same_bytes, same_bytes, same_bytes]
  simp only [Bool.and_eq_true, decide_eq_true_eq]
  constructor
  · rintro ⟨h1, h2, h3, h4⟩
    cases x; cases y
    simp only at h1 h2 h3 h4
    rw [h1, h2, h3, h4]
  · rintro rfl
    exact ⟨rfl, rfl, rfl, rfl⟩
theorem eqC_self (x : Cl) : eqC x x = true := eqC_iff.2 rfl
set_option maxRecDepth 100000 in
theorem cell_equal (x y : Cl) (w : World) : (Op.equalIn 10000 42 (.agg #[.string x.t, .string x.r, .string x.s, .string x.v]) (.agg #[.string y.t, .string y.r, .string y.s, .string y.v])).run Tryz.prog w = .ok (eqC x y) w := by
  rw [show (10000 : Nat) = 9999 + 1 from rfl, run_equalIn_agg w 9999 42 _ _ fields42 held42]
  simp only [Program.fieldsOf, Tryz.underlying42]
  unfold eqC
  go_simp
  by_cases h1 : x.t.toList = y.t.toList <;> by_cases h2 : x.r.toList = y.r.toList <;> by_cases h3 : x.s.toList = y.s.toList <;> by_cases h4 : x.v.toList = y.v.toList <;> simp [h1, h2, h3, h4]
set_option maxRecDepth 100000 in
theorem cell_eql (x y : Cl) (w : World) : (binOp .eql 42 (.agg #[.string x.t, .string x.r, .string x.s, .string x.v]) (.agg #[.string y.t, .string y.r, .string y.s, .string y.v])).run Tryz.prog w = .ok (.bool (eqC x y)) w := by
  rw [run_eql_struct, cell_equal]; rfl
set_option maxRecDepth 100000 in
theorem cell_neq (x y : Cl) (w : World) : (binOp .neq 42 (.agg #[.string x.t, .string x.r, .string x.s, .string x.v]) (.agg #[.string y.t, .string y.r, .string y.s, .string y.v])).run Tryz.prog w = .ok (.bool (!eqC x y)) w := by
  rw [run_neq_struct, cell_equal]; rfl
end Go.Proofs.YtkbaalenbpgheaaGreatDoor

/- Cells held against each other in rows; a fact: rows. -/
namespace Go.Proofs.YtkbaalenbpgheaaGreatDoor
open Go.RowKit Go.Sort Go.Shelf
attribute [local go_sem ↓] Go.wp_at_zero Go.wp_at_succ
set_option linter.unusedSectionVars false
def laysEqual_ren : Go.Shelf.Ren := ⟨fun | 8 => 15 | n => n, fun | 22 => 45 | 24 => 42 | 4 => 4 | 3 => 3 | 0 => 0 | n => n, fun | n => n⟩
theorem laysEqual : Go.Proofs.SlLaysQ.n8 Tryz.prog laysEqual_ren := {
  mixed := by kernel_rfl
  f8 := ⟨Tryz.f15.name, by decide, Tryz.func15.trans (congrArg some (by kernel_rfl))⟩
  t0 := Tryz.underlying0
  a0 := Tryz.isAgg0
  z0 := Tryz.sizeOf0
  v0 := Tryz.zeroValue0
  t3 := Tryz.underlying3
  a3 := Tryz.isAgg3
  z3 := Tryz.sizeOf3
  v3 := Tryz.zeroValue3
  t4 := Tryz.underlying4
  a4 := Tryz.isAgg4
  z4 := Tryz.sizeOf4
  v4 := Tryz.zeroValue4
  t22 := Tryz.underlying45
  a22 := Tryz.isAgg45
  z22 := Tryz.sizeOf45
  v22 := Tryz.zeroValue45 }
variable [Inhabited Cl] [Inhabited Ev]
set_option maxRecDepth 100000 in
theorem neqAt : NeqAt Tryz.prog 42 (fun x => .agg (cellL x).toArray) eqC := ⟨fun x y w => cell_neq x y w, GuardAt.agg _ guard42⟩
theorem RowC.cells {w : World} {g : Nat} {cs : List Cl} (h : HoldsK cellL 4 w g 0 cs.toArray) : ∀ j, j < cs.length → ∀ i v, (cellL cs[j]!)[i]? = some v → w.cell? ⟨g, 0 + j * 4 + i, none⟩ = some v := by
  intro j hj i v hi
  have hi4 : i < 4 := (List.getElem?_eq_some_iff.1 hi).1
  have := (HoldsK.cell h (i := j) (c := i) (by simpa using hj) hi4).1
  rw [this]
  have e : cs.toArray[j]! = cs[j]! := by simp
  rw [e]
  rw [getElem!_pos _ i (by exact hi4)]
  exact (List.getElem?_eq_getElem (by exact hi4)).symm.trans hi
theorem allEq_self : ∀ cs : List Cl, Lib.allEq eqC cs cs = true
  | [] => rfl
  | c :: cs => by
    unfold Lib.allEq
    rw [eqC_self, allEq_self cs]
    rfl
set_option maxRecDepth 100000 in
set_option maxHeartbeats 1000000 in
theorem equalNone (p q : Option Addr) (c d : Nat) (w : World) : Calls Tryz.prog 15 #[.slice p 0 c, .slice q 0 d] w fun e w' => e = .returned (.bool true) ∧ w' = w := by
  go_enter Tryz.func15, Tryz.ntmps15
  go_wp2
  refine wp_loop_rounds 1 ?_
  rw [rounds_succ]
  go_wp2
  go_ret
  exact ⟨rfl, rfl⟩
/-- slices.Equal of two rows of the same cells. -/
theorem equal_any (b1 b2 : Nat) (v1 v2 : Value) (cs : List Cl) (w : World) (h1 : RowC w b1 v1 cs) (h2 : RowC w b2 v2 cs) (hl : cs.length ≤ 1000000) :
    Calls Tryz.prog 15 #[v1, v2] w fun e w' => e = .returned (.bool true) ∧ Below w.heap.size w w' := by
  by_cases hc : cs = []
  · subst hc
    have z : ∀ {b : Nat} {v : Value}, RowC w b v [] → ∃ p c, v = .slice p 0 c := fun h => by
      rcases h with ⟨rfl, _⟩ | ⟨g, cap, rfl, _⟩
      · exact ⟨_, _, rfl⟩
      · exact ⟨_, _, rfl⟩
    obtain ⟨p, c, rfl⟩ := z h1
    obtain ⟨q, d, rfl⟩ := z h2
    exact (equalNone p q c d w).mono fun e w' ⟨he, hw⟩ => ⟨he, by rw [hw]; exact Below.refl _ _⟩
  · rcases h1 with ⟨_, h⟩ | ⟨g1, cap1, rfl, _, hg1, hc1, _, H1⟩
    · exact absurd h hc
    · rcases h2 with ⟨_, h⟩ | ⟨g2, cap2, rfl, _, hg2, hc2, _, H2⟩
      · exact absurd h hc
      · have h := AnyQ.slices_Equal (ρ := laysEqual_ren) laysEqual 4 isAgg42 sizeOf42 cellL (fun _ => rfl) eqC neqAt g1 0 cs.length cap1 g2 0 cs.length cap2 cs cs w (Nat.le_refl _) (Nat.le_refl _) (by omega) (by omega) (RowC.cells H1) (RowC.cells H2)
        rw [List.take_length, allEq_self] at h
        exact h.mono fun e w' ⟨he, q, hw⟩ => ⟨he, by rw [hw]; exact ⟨rfl, rfl, rfl, Nat.le_refl _, fun _ _ => rfl⟩⟩
/-- The fact: an event of ann's, and ann gone. -/
def annB : ByteArray := ⟨#[97, 110, 110]⟩
def putE : Ev := ⟨1, ⟨#[97, 110, 110]⟩, ⟨#[116]⟩, ⟨#[114]⟩, ⟨#[118]⟩⟩
def goneE : Ev := ⟨3, ⟨#[97, 110, 110]⟩, ⟨#[]⟩, ⟨#[]⟩, ⟨#[]⟩⟩
theorem put_right : rightB putE = true := by decide +kernel
theorem gone_right : rightB goneE = true := by decide +kernel
theorem put_err : errOf putE = .nilIface := by unfold errOf; rw [if_pos put_right]
theorem gone_err : errOf goneE = .nilIface := by unfold errOf; rw [if_pos gone_right]
theorem put_brief : Brief putE := ⟨by decide, by decide, by decide, by decide⟩
theorem gone_brief : Brief goneE := ⟨by decide, by decide, by decide, by decide⟩
theorem put_at : app putE tab0 ⟨#[116]⟩ ⟨#[114]⟩ = some (⟨#[97, 110, 110]⟩, ⟨#[118]⟩) := by
  rw [app_right put_right, act_put rfl]
  rfl
theorem gone_all : app goneE (app putE tab0) = tab0 := by
  rw [app_right gone_right, app_right put_right]
  funext t r
  rw [act_gone (by decide) (by decide), act_put rfl]
  cases h : hereB t r putE
  · rfl
  · rfl
theorem RowC.len {w : World} {b : Nat} {v : Value} {cs : List Cl} (h : RowC w b v cs) : ∃ p c, v = .slice p cs.length c := by
  rcases h with ⟨rfl, rfl⟩ | ⟨g, cap, rfl, _⟩
  · exact ⟨_, _, rfl⟩
  · exact ⟨_, _, rfl⟩
theorem nilIface_eq (w : World) : (binOp .eql 32 .nilIface .nilIface).run Tryz.prog w = .ok (.bool true) w := by kernel_rfl
theorem nilIface_ne (w : World) : (binOp .neq 32 .nilIface .nilIface).run Tryz.prog w = .ok (.bool false) w := by kernel_rfl
end Go.Proofs.YtkbaalenbpgheaaGreatDoor

/- Errors taken apart: what the law's own look at an error comes to, of none and of one of the program's own. -/
namespace Go.Proofs.YtkbaalenbpgheaaGreatDoor
open Go.RowKit Go.Extern.Stop Go.Stop Go.Extern
theorem Tryz.valueOf94 (t : Addr) (w : World) : (ReflectliteValue.unpack (.iface 109 (.pointer (some t)))).run Tryz.prog w
    = .ok (.agg #[.pointer (some ⟨6, 109, none⟩), .pointer (some ⟨w.heap.size, 0, none⟩), .int .u64 150]) (w.alloc (.cells #[.pointer (some t)] 109)) := by kernel_rfl
theorem Tryz.type94 (a : Addr) (w : World) : (ReflectliteValue.methodAny (ReflectliteValue.valueError "reflectlite.Value.Type" 0) (fun t _ _ _ => ReflectliteType.toType t) #[.agg #[.pointer (some ⟨6, 109, none⟩), .pointer (some a), .int .u64 150]]).run Tryz.prog w
    = .ok (.iface 199 (.agg #[.pointer (some ⟨6, 109, none⟩)])) w := by kernel_rfl
theorem Tryz.kind94 (w : World) : ((ReflectliteType.abiMethod fun t => Functor.map (fun a : Nat => Value.int IntKind.u8 (a : Int)) (Rtype.kind t)) #[.pointer (some ⟨6, 109, none⟩)]).run Tryz.prog w = .ok (.int .u8 22) w := by kernel_rfl
theorem Tryz.kind30 (w : World) : ((ReflectliteType.abiMethod fun t => Functor.map (fun a : Nat => Value.int IntKind.u8 (a : Int)) (Rtype.kind t)) #[.pointer (some ⟨6, 56, none⟩)]).run Tryz.prog w = .ok (.int .u8 2) w := by kernel_rfl
theorem bind_run {α β : Type} {P : Program} {m : Sem α} {k : α → Sem β} {w : World} {a : α} (h : m.run P w = .ok a w) : (m >>= k).run P w = (k a).run P w := by
  rw [Sem.run_bind, h]; rfl
theorem Tryz.parts94 (a : Addr) (w : World) : (ReflectliteValue.parts (.agg #[.pointer (some ⟨6, 109, none⟩), .pointer (some a), .int .u64 150])).run Tryz.prog w = .ok (some (109, a, 150)) w := by kernel_rfl
theorem Tryz.isNil94 (a p : Addr) (W : World) (ha : W.cell? a = some (.pointer (some p))) :
    (ReflectliteValue.method (ReflectliteValue.valueError "reflectlite.Value.IsNil" 0) ReflectliteValue.isNil #[.agg #[.pointer (some ⟨6, 109, none⟩), .pointer (some a), .int .u64 150]]).run Tryz.prog W = .ok (.bool false) W := by
  refine (bind_run (Tryz.parts94 a W)).trans ?_
  simp [ReflectliteValue.isNil, loadVar, isAgg, underlying, Tryz.underlying109, ha, Result.andThen]
theorem Tryz.elem94 (w : World) : (ReflectliteType.method ReflectliteType.elem #[.agg #[.pointer (some ⟨6, 109, none⟩)]]).run Tryz.prog w = .ok (.iface 199 (.agg #[.pointer (some ⟨6, 56, none⟩)])) w := by kernel_rfl
theorem Tryz.implements30 (w : World) : (ReflectliteType.relation "Implements" ReflectliteType.implements_ #[.agg #[.pointer (some ⟨6, 56, none⟩)], .iface 199 (.agg #[.pointer (some ⟨6, 32, none⟩)])]).run Tryz.prog w = .ok (.bool true) w := by kernel_rfl
theorem Tryz.typeOf30 (v : Value) (w : World) : (ReflectliteType.typeOf #[.iface 56 v]).run Tryz.prog w = .ok (.iface 199 (.agg #[.pointer (some ⟨6, 56, none⟩)])) w := by kernel_rfl
theorem Tryz.assignable30 (w : World) : (ReflectliteType.relation "AssignableTo" ReflectliteType.assignableTo #[.agg #[.pointer (some ⟨6, 56, none⟩)], .iface 199 (.agg #[.pointer (some ⟨6, 56, none⟩)])]).run Tryz.prog w = .ok (.bool true) w := by kernel_rfl
theorem Tryz.valueOf30 (n : Int) (w : World) : (ReflectliteValue.unpack (.iface 56 (.int .i64 n))).run Tryz.prog w
    = .ok (.agg #[.pointer (some ⟨6, 56, none⟩), .pointer (some ⟨w.heap.size, 0, none⟩), .int .u64 130]) (w.alloc (.cells #[.int .i64 n] 56)) := by kernel_rfl
theorem Tryz.elemOf94 (w : World) : (Rtype.elem? 109).run Tryz.prog w = .ok (some 56) w := by kernel_rfl
theorem Tryz.mk30 (p : Addr) (w : World) : (ReflectliteValue.mk 56 p ReflectliteValue.flagAddr).run Tryz.prog w = .ok (.agg #[.pointer (some ⟨6, 56, none⟩), .pointer (some p), .int .u64 386]) w := by kernel_rfl
theorem Tryz.elemV94 (a p : Addr) (W : World) (ha : W.cell? a = some (.pointer (some p))) :
    (ReflectliteValue.method (ReflectliteValue.valueError "reflectlite.Value.Elem" 0) ReflectliteValue.elem #[.agg #[.pointer (some ⟨6, 109, none⟩), .pointer (some a), .int .u64 150]]).run Tryz.prog W
      = .ok (.agg #[.pointer (some ⟨6, 56, none⟩), .pointer (some p), .int .u64 386]) W := by
  refine (bind_run (Tryz.parts94 a W)).trans ?_
  simp [ReflectliteValue.elem, loadVar, isAgg, underlying, Tryz.underlying109, ha, Result.andThen, Tryz.elemOf94, Tryz.mk30]
theorem Tryz.parts30a (a : Addr) (w : World) : (ReflectliteValue.parts (.agg #[.pointer (some ⟨6, 56, none⟩), .pointer (some a), .int .u64 386])).run Tryz.prog w = .ok (some (56, a, 386)) w := by kernel_rfl
theorem Tryz.parts30 (a : Addr) (w : World) : (ReflectliteValue.parts (.agg #[.pointer (some ⟨6, 56, none⟩), .pointer (some a), .int .u64 130])).run Tryz.prog w = .ok (some (56, a, 130)) w := by kernel_rfl
theorem Tryz.direct30 (w : World) : (Rtype.directlyAssignable 56 56).run Tryz.prog w = .ok true w := by kernel_rfl
theorem Tryz.set30 (ta b : Addr) (n : Int) (old : Value) (W : World) (hb : W.cell? b = some (.int .i64 n)) (ht : W.cell? ta = some old) (hf : W.frozen? ta = false) :
    (ReflectliteValue.set #[.agg #[.pointer (some ⟨6, 56, none⟩), .pointer (some ta), .int .u64 386], .agg #[.pointer (some ⟨6, 56, none⟩), .pointer (some b), .int .u64 130]]).run Tryz.prog W
      = .ok (.tuple #[]) (W.setCell ta (.int .i64 n)) := by
  refine (bind_run (Tryz.parts30a ta W)).trans ?_
  refine (bind_run (Tryz.parts30 b W)).trans ?_
  simp [ReflectliteValue.flagAddr, loadVar, isAgg, underlying, Tryz.underlying56, hb, Result.andThen, Tryz.direct30, storeVar, Value.cells, storeCells, Addr.add]
  rw [run_store Tryz.prog W ta _ _ (by rfl)]
  simp [ht, hf]
theorem Tryz.methodKind (h : Value) (w : World) : (Go.method 410 199 (.agg #[h]) "Kind").run Tryz.prog w = .ok (218, h) w := by kernel_rfl
theorem Tryz.methodElem (h : Value) (w : World) : (Go.method 410 199 (.agg #[h]) "Elem").run Tryz.prog w = .ok (228, .agg #[h]) w := by kernel_rfl
theorem Tryz.methodImplements (h : Value) (w : World) : (Go.method 410 199 (.agg #[h]) "Implements").run Tryz.prog w = .ok (229, .agg #[h]) w := by kernel_rfl
theorem Tryz.methodAssignableTo (h : Value) (w : World) : (Go.method 410 199 (.agg #[h]) "AssignableTo").run Tryz.prog w = .ok (226, .agg #[h]) w := by kernel_rfl
/-- The memory behind errors.As: four new blocks, and what the target points to. -/
def asW (w : World) (t : Addr) (n : Int) : World := ((((w.alloc (.cells #[.pointer (some t)] 109)).alloc (.cells #[.pointer (some ⟨6, 109, none⟩), .pointer (some ⟨w.heap.size, 0, none⟩), .int .u64 150] 149)).alloc (.cells #[.pointer (some ⟨6, 109, none⟩), .pointer (some ⟨w.heap.size, 0, none⟩), .int .u64 150] 149)).alloc (.cells #[.int .i64 n] 56)).setCell t (.int .i64 n)
set_option maxRecDepth 100000 in
set_option maxHeartbeats 4000000 in
theorem as_hit (t : Addr) (n : Int) (old : Value) (w : World) (hg : w.cell? ⟨0, 0, none⟩ = some (.iface 199 (.agg #[.pointer (some ⟨6, 32, none⟩)]))) (ht0 : w.cell? t = some old) (hf0 : w.frozen? t = false) :
    Calls Tryz.prog 56 #[.iface 56 (.int .i64 n), .iface 109 (.pointer (some t))] w fun ev w' => ev = .returned (.bool true) ∧ w' = asW w t n := by
  unfold asW
  have h58 := @run_callFunc_extern Tryz.prog 86 _ (fun args => ReflectliteValue.unpack (args.getD 0 (.tuple #[]))) Tryz.func86 (by kernel_rfl) (by kernel_rfl) (by kernel_rfl) (by kernel_rfl)
  have h59 := @run_callFunc_extern Tryz.prog 87 _ (ReflectliteValue.methodAny (ReflectliteValue.valueError "reflectlite.Value.Type" 0) (fun t _ _ _ => ReflectliteType.toType t)) Tryz.func87 (by kernel_rfl) (by kernel_rfl) (by kernel_rfl) (by kernel_rfl)
  have h60 := @run_callFunc_extern Tryz.prog 88 _ (ReflectliteValue.method (ReflectliteValue.valueError "reflectlite.Value.IsNil" 0) ReflectliteValue.isNil) Tryz.func88 (by kernel_rfl) (by kernel_rfl) (by kernel_rfl) (by kernel_rfl)
  have h81 := @run_callFunc_extern Tryz.prog 218 _ (ReflectliteType.abiMethod fun t => do pure (.int .u8 (← Rtype.kind t))) Tryz.func218 (by kernel_rfl) (by kernel_rfl) (by kernel_rfl) (by kernel_rfl)
  have h93 := @run_callFunc_extern Tryz.prog 228 _ (ReflectliteType.method ReflectliteType.elem) Tryz.func228 (by kernel_rfl) (by kernel_rfl) (by kernel_rfl) (by kernel_rfl)
  have h94 := @run_callFunc_extern Tryz.prog 229 _ (ReflectliteType.relation "Implements" ReflectliteType.implements_) Tryz.func229 (by kernel_rfl) (by kernel_rfl) (by kernel_rfl) (by kernel_rfl)
  have h64 := @run_callFunc_extern Tryz.prog 126 _ ReflectliteType.typeOf Tryz.func126 (by kernel_rfl) (by kernel_rfl) (by kernel_rfl) (by kernel_rfl)
  have h91 := @run_callFunc_extern Tryz.prog 226 _ (ReflectliteType.relation "AssignableTo" ReflectliteType.assignableTo) Tryz.func226 (by kernel_rfl) (by kernel_rfl) (by kernel_rfl) (by kernel_rfl)
  have h65 := @run_callFunc_extern Tryz.prog 127 _ (ReflectliteValue.method (ReflectliteValue.valueError "reflectlite.Value.Elem" 0) ReflectliteValue.elem) Tryz.func127 (by kernel_rfl) (by kernel_rfl) (by kernel_rfl) (by kernel_rfl)
  have h66 := @run_callFunc_extern Tryz.prog 128 _ ReflectliteValue.set Tryz.func128 (by kernel_rfl) (by kernel_rfl) (by kernel_rfl) (by kernel_rfl)
  have tO := Tryz.typeOf30
  have mA := Tryz.methodAssignableTo
  have a30 := Tryz.assignable30
  have v30 := Tryz.valueOf30
  have f94 := Tryz.valueOf94
  have f7 := Tryz.type94
  have mK := Tryz.methodKind
  have mE := Tryz.methodElem
  have mI := Tryz.methodImplements
  have k94 := Tryz.kind94
  have k30 := Tryz.kind30
  have e94 := Tryz.elem94
  have i30 := Tryz.implements30
  have n8 := Tryz.isNil94 ⟨w.heap.size, 0, none⟩ t ((w.alloc (.cells #[.pointer (some t)] 109)).alloc (.cells #[.pointer (some ⟨6, 109, none⟩), .pointer (some ⟨w.heap.size, 0, none⟩), .int .u64 150] 149)) (by simp)
  have hlt : 0 < w.heap.size := block_lt_of_cell hg
  have hg2 : ((w.alloc (.cells #[.pointer (some t)] 109)).alloc (.cells #[.pointer (some ⟨6, 109, none⟩), .pointer (some ⟨w.heap.size, 0, none⟩), .int .u64 150] 149)).cell? ⟨0, 0, none⟩ = some (.iface 199 (.agg #[.pointer (some ⟨6, 32, none⟩)])) := by
    rw [World.cell?_alloc_lt _ _ ⟨0, 0, none⟩ (by simp <;> omega), World.cell?_alloc_lt _ _ ⟨0, 0, none⟩ hlt]; exact hg
  have htl : t.block < w.heap.size := block_lt_of_cell ht0
  have el := Tryz.elemV94 ⟨w.heap.size, 0, none⟩ t (((w.alloc (.cells #[.pointer (some t)] 109)).alloc (.cells #[.pointer (some ⟨6, 109, none⟩), .pointer (some ⟨w.heap.size, 0, none⟩), .int .u64 150] 149)).alloc (.cells #[.pointer (some ⟨6, 109, none⟩), .pointer (some ⟨w.heap.size, 0, none⟩), .int .u64 150] 149)) (by rw [World.cell?_alloc_lt _ _ ⟨w.heap.size, 0, none⟩ (by simp; omega)]; simp)
  have st := Tryz.set30 t ⟨w.heap.size + 1 + 1 + 1, 0, none⟩ n old ((((w.alloc (.cells #[.pointer (some t)] 109)).alloc (.cells #[.pointer (some ⟨6, 109, none⟩), .pointer (some ⟨w.heap.size, 0, none⟩), .int .u64 150] 149)).alloc (.cells #[.pointer (some ⟨6, 109, none⟩), .pointer (some ⟨w.heap.size, 0, none⟩), .int .u64 150] 149)).alloc (.cells #[.int .i64 n] 56))
    (by rw [World.cell?_alloc_at _ _ _ _ (by simp)]; rfl)
    (by rw [World.cell?_alloc_lt _ _ t (by simp; omega), World.cell?_alloc_lt _ _ t (by simp; omega), World.cell?_alloc_lt _ _ t (by simp; omega), World.cell?_alloc_lt _ _ t htl]; exact ht0)
    (by rw [World.frozen?_alloc_old _ _ t (by simp; omega), World.frozen?_alloc_old _ _ t (by simp; omega), World.frozen?_alloc_old _ _ t (by simp; omega), World.frozen?_alloc_old _ _ t (Nat.ne_of_lt htl)]; exact hf0)
  go_enter Tryz.func56, Tryz.ntmps56
  go_wp2
  refine wp_loop_rounds 1 ?_
  rw [rounds_succ]
  go_wp2
  go_ret
  exact ⟨rfl, rfl⟩
end Go.Proofs.YtkbaalenbpgheaaGreatDoor
