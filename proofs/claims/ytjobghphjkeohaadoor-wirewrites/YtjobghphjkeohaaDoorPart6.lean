/- Texts of this proof, one behind the other. -/
import Derived.WalkKit
import Derived.WalkSpells
import Derived.WalkLawsBesides
import Derived.Deep.QuietTactic
import Derived.BigQuiet
import Derived.LaidEql
import Derived.Stop.Asserts
import Derived.RowKitTokens
import Derived.Test.YtjobghphjkeohaaDoorPart5
/- The mark of texts: what the program's own 'Mark' comes to. -/
namespace Go.Proofs.YtjobghphjkeohaaDoor
open Go.RowKit
/-- What is summed up: the kind, and of each text its size and itself. -/
def markTo (kind : UInt8) (ps : List ByteArray) (k : Nat) : List UInt8 := kind :: (ps.take k).flatMap fun p => num8 p.size ++ p.data.toList
theorem markTo_step (kind : UInt8) (ps : List ByteArray) (k : Nat) (h : k < ps.length) : markTo kind ps k ++ num8 (ps.getD k ByteArray.empty).size ++ (ps.getD k ByteArray.empty).data.toList = markTo kind ps (k + 1) := by
  have e : ps.take (k + 1) = ps.take k ++ [ps.getD k ByteArray.empty] := by
    rw [List.take_succ_eq_append_getElem h]
    simp [h]
  unfold markTo
  rw [e, List.flatMap_append]
  simp
theorem markTo_len (kind : UInt8) (ps : List ByteArray) (hp : ∀ p ∈ ps, p.size ≤ 20000) (k : Nat) : (markTo kind ps k).length ≤ 1 + 20008 * k := by
  have e : ∀ l : List ByteArray, (∀ p ∈ l, p.size ≤ 20000) → (l.flatMap fun p => num8 p.size ++ p.data.toList).length ≤ 20008 * l.length := by
    intro l
    induction l with
    | nil => intro _; simp
    | cons x r ih =>
      intro h
      have h1 := ih (fun p hp => h p (by simp [hp]))
      have h2 := h x (by simp)
      have h3 : x.data.toList.length = x.size := rfl
      simp only [List.flatMap_cons, List.length_append, num8_len, List.length_cons, h3]
      omega
  have h1 := e (ps.take k) (fun p hp' => hp p (List.mem_of_mem_take hp'))
  have h2 : (ps.take k).length ≤ k := List.length_take_le _ _
  unfold markTo
  simp only [List.length_cons]
  omega
/-- A slice of texts that came in. -/
def Parts (w : World) (v : Value) (ps : List ByteArray) : Prop :=
  ∃ ao cap, v = .slice ao ps.length cap ∧ (ps = [] ∨ ∃ b off, ao = some ⟨b, off, none⟩ ∧ b < w.heap.size ∧ ∀ k, k < ps.length → w.cell? ⟨b, off + k, none⟩ = some (.string (ps.getD k ByteArray.empty)))
theorem Parts.below {w w' : World} {v : Value} {ps : List ByteArray} {B : Nat} (h : Parts w v ps) (hb : Below B w w') (hB : B = w.heap.size) : Parts w' v ps := by
  obtain ⟨ao, cap, hv, h⟩ := h
  refine ⟨ao, cap, hv, ?_⟩
  rcases h with h | ⟨b, off, ha, hl, hc⟩
  · exact .inl h
  · refine .inr ⟨b, off, ha, by have := hb.size; omega, fun k hk => ?_⟩
    rw [hb.cell (p := ⟨b, off + k, none⟩) (by simp; omega)]
    exact hc k hk
set_option maxRecDepth 100000 in
set_option maxHeartbeats 1000000 in
theorem mark_any (kind : UInt8) (v : Value) (ps : List ByteArray) (w : World) (hP : Parts w v ps) (hn : ps.length ≤ 10) (hp : ∀ p ∈ ps, p.size ≤ 20000) (hK : TabK w) :
    Calls Tryd.prog 32 #[.int .u8 (kind.toNat : Int), v] w fun e w' => e = .returned (.string ((⟨(sha (markTo kind ps ps.length)).toArray⟩ : ByteArray).extract 0 16)) ∧ Below w.heap.size w w' := by
  obtain ⟨i5, hE⟩ := elemB
  have h0 := hK.lt
  obtain ⟨ao, cap0, rfl, hP⟩ := hP
  go_enter Tryd.func32, Tryd.ntmps32
  go_wp2
  go_loopw [5, 12] (fun t i wr => ∃ k g m cap : Nat, k ≤ ps.length ∧ i = .int .i64 k ∧ t = .slice (some ⟨g, 0, none⟩) m cap ∧ m ≤ 1 + 20008 * k ∧ BR wr w.heap.size 5 g m cap (bytesV (markTo kind ps k)) ∧ Below w.heap.size w wr)
    (fun _ i _ => ps.length - (intOf i).toNat)
  case atStart => exact ⟨0, w.heap.size, 1, 1, by omega, rfl, rfl, by omega, ⟨rfl, Nat.le_refl _, by omega, _, _, heap_alloc_new w _, rfl, rfl, .inl (Nat.le_refl _)⟩, (Below.refl _ _).alloc (Nat.le_refl _) _⟩
  case round =>
    obtain ⟨k, g, m, cap, hk, rfl, rfl, hm, hr, hb⟩ := hrel
    have hbs := hb.size
    by_cases hlt : k < ps.length
    · rcases hP with hP | ⟨b, off, rfl, hbl, hc⟩
      · rw [hP] at hlt; simp at hlt
      · have hck : wr.cell? ⟨b, off + k, none⟩ = some (.string (ps.getD k ByteArray.empty)) := by
          rw [hb.cell (p := ⟨b, off + k, none⟩) hbl]; exact hc k hlt
        have hst := hide (markTo_step kind ps k hlt)
        have hsz : (ps.getD k ByteArray.empty).size ≤ 20000 := by
          have : ps.getD k ByteArray.empty ∈ ps := by simp [hlt]
          exact hp _ this
        have hln := hide (markTo_len kind ps hp (k + 1))
        generalize ps.getD k ByteArray.empty = p at hck hst hsz
        clear hc hp
        go_wp2_with (first
          | (go_at_call 42; refine (appendNum_any w.heap.size _ m (markTo kind ps k) p.size _ (by omega) (BRn.of hr) (by omega) hbs).mono ?_; rintro e w1 ⟨g1, cap1, rfl, hr1, hb1⟩)
          | (at_builtin; refine append_str hE w.heap.size g1 (m + 8) cap1 (markTo kind ps k ++ num8 p.size) p rfl rfl hr1 (by omega) (by have := hb1.size; omega) ?_; intro g2 cap2 w2 hr2 hb2; rw [hst.out] at hr2))
        go_roundw
        case rel => exact ⟨k + 1, g2, m + 8 + p.size, cap2, by omega, by go_num, rfl, by have h1 := hr2.len; rw [bytesV_len] at h1; have h2 := hln.out; omega, hr2, hb.trans (hb1.trans hb2)⟩
        case measure => simp [intOf]; omega
    · obtain rfl : k = ps.length := by omega
      have hK' := hK.below hb h0
      have hl := markTo_len kind ps hp ps.length
      generalize hT : markTo kind ps ps.length = T at hr hl
      have HT := hide hT
      clear hT hP hp
      have hS := hide (sum_any ⟨T.toArray⟩ (by show T.length ≤ 800000; omega) wr hK')
      have hlen : (sha T).length = 32 := by
        unfold sha stBytes
        rfl
      generalize hSH : sha T = S at hS hlen
      have HSH := hide hSH
      clear hSH
      have hSs : (⟨S.toArray⟩ : ByteArray).size = 32 := hlen
      go_wp2_with (first
        | ((with_reducible refine conv_out g m cap T ?_ hr ?_); rfl)
        | (go_at_call 43; refine (hS.out).mono ?_; rintro e w1 ⟨rfl, hb1⟩))
      go_ret
      exact ⟨ret_val (by show Value.string ((⟨S.toArray⟩ : ByteArray).extract 0 16) = _; rw [HT.out, HSH.out]), hb.trans (hb1.mono hbs)⟩
end Go.Proofs.YtjobghphjkeohaaDoor

/- A mark as a text; texts held against each other. -/
namespace Go.Proofs.YtjobghphjkeohaaDoor
open Go.RowKit
attribute [local go_sem ↓] Go.wp_at_zero Go.wp_at_succ
def markB (kind : UInt8) (ps : List ByteArray) : ByteArray := (⟨(sha (markTo kind ps ps.length)).toArray⟩ : ByteArray).extract 0 16
theorem markB_size (kind : UInt8) (ps : List ByteArray) : (markB kind ps).size = 16 := by
  have hlen : (⟨(sha (markTo kind ps ps.length)).toArray⟩ : ByteArray).size = 32 := by
    show (sha (markTo kind ps ps.length)).length = 32
    unfold sha stBytes
    rfl
  unfold markB
  rw [ByteArray.size_extract, hlen]
  rfl
theorem lists_ne {a b : ByteArray} (h : a ≠ b) : (a.toList == b.toList) = false := by
  rw [beq_eq_false_iff_ne]
  intro e
  rw [ByteArray.toList_eq, ByteArray.toList_eq] at e
  exact h (ByteArray.ext (Array.toList_inj.1 e))
theorem lists_eq {a b : ByteArray} (h : a = b) : (a.toList == b.toList) = true := by rw [h]; simp
end Go.Proofs.YtjobghphjkeohaaDoor

/- Errors taken apart: what the law's own look at an error comes to, of none and of one of the program's own. -/
namespace Go.Proofs.YtjobghphjkeohaaDoor
open Go.RowKit Go.Extern.Stop Go.Stop Go.Extern
theorem Tryd.valueOf94 (t : Addr) (w : World) : (ReflectliteValue.unpack (.iface 86 (.pointer (some t)))).run Tryd.prog w
    = .ok (.agg #[.pointer (some ⟨2, 86, none⟩), .pointer (some ⟨w.heap.size, 0, none⟩), .int .u64 150]) (w.alloc (.cells #[.pointer (some t)] 86)) := by kernel_rfl
theorem Tryd.type94 (a : Addr) (w : World) : (ReflectliteValue.methodAny (ReflectliteValue.valueError "reflectlite.Value.Type" 0) (fun t _ _ _ => ReflectliteType.toType t) #[.agg #[.pointer (some ⟨2, 86, none⟩), .pointer (some a), .int .u64 150]]).run Tryd.prog w
    = .ok (.iface 106 (.agg #[.pointer (some ⟨2, 86, none⟩)])) w := by kernel_rfl
theorem Tryd.kind94 (w : World) : ((ReflectliteType.abiMethod fun t => Functor.map (fun a : Nat => Value.int IntKind.u8 (a : Int)) (Rtype.kind t)) #[.pointer (some ⟨2, 86, none⟩)]).run Tryd.prog w = .ok (.int .u8 22) w := by kernel_rfl
theorem Tryd.kind30 (w : World) : ((ReflectliteType.abiMethod fun t => Functor.map (fun a : Nat => Value.int IntKind.u8 (a : Int)) (Rtype.kind t)) #[.pointer (some ⟨2, 27, none⟩)]).run Tryd.prog w = .ok (.int .u8 2) w := by kernel_rfl
theorem bind_run {α β : Type} {P : Program} {m : Sem α} {k : α → Sem β} {w : World} {a : α} (h : m.run P w = .ok a w) : (m >>= k).run P w = (k a).run P w := by
  rw [Sem.run_bind, h]; rfl
theorem Tryd.parts94 (a : Addr) (w : World) : (ReflectliteValue.parts (.agg #[.pointer (some ⟨2, 86, none⟩), .pointer (some a), .int .u64 150])).run Tryd.prog w = .ok (some (86, a, 150)) w := by kernel_rfl
theorem Tryd.isNil94 (a p : Addr) (W : World) (ha : W.cell? a = some (.pointer (some p))) :
    (ReflectliteValue.method (ReflectliteValue.valueError "reflectlite.Value.IsNil" 0) ReflectliteValue.isNil #[.agg #[.pointer (some ⟨2, 86, none⟩), .pointer (some a), .int .u64 150]]).run Tryd.prog W = .ok (.bool false) W := by
  refine (bind_run (Tryd.parts94 a W)).trans ?_
  simp [ReflectliteValue.isNil, loadVar, isAgg, underlying, Tryd.underlying86, ha, Result.andThen]
theorem Tryd.elem94 (w : World) : (ReflectliteType.method ReflectliteType.elem #[.agg #[.pointer (some ⟨2, 86, none⟩)]]).run Tryd.prog w = .ok (.iface 106 (.agg #[.pointer (some ⟨2, 27, none⟩)])) w := by kernel_rfl
theorem Tryd.implements30 (w : World) : (ReflectliteType.relation "Implements" ReflectliteType.implements_ #[.agg #[.pointer (some ⟨2, 27, none⟩)], .iface 106 (.agg #[.pointer (some ⟨2, 31, none⟩)])]).run Tryd.prog w = .ok (.bool true) w := by kernel_rfl
theorem Tryd.typeOf30 (v : Value) (w : World) : (ReflectliteType.typeOf #[.iface 27 v]).run Tryd.prog w = .ok (.iface 106 (.agg #[.pointer (some ⟨2, 27, none⟩)])) w := by kernel_rfl
theorem Tryd.assignable30 (w : World) : (ReflectliteType.relation "AssignableTo" ReflectliteType.assignableTo #[.agg #[.pointer (some ⟨2, 27, none⟩)], .iface 106 (.agg #[.pointer (some ⟨2, 27, none⟩)])]).run Tryd.prog w = .ok (.bool true) w := by kernel_rfl
theorem Tryd.valueOf30 (n : Int) (w : World) : (ReflectliteValue.unpack (.iface 27 (.int .i64 n))).run Tryd.prog w
    = .ok (.agg #[.pointer (some ⟨2, 27, none⟩), .pointer (some ⟨w.heap.size, 0, none⟩), .int .u64 130]) (w.alloc (.cells #[.int .i64 n] 27)) := by kernel_rfl
theorem Tryd.elemOf94 (w : World) : (Rtype.elem? 86).run Tryd.prog w = .ok (some 27) w := by kernel_rfl
theorem Tryd.mk30 (p : Addr) (w : World) : (ReflectliteValue.mk 27 p ReflectliteValue.flagAddr).run Tryd.prog w = .ok (.agg #[.pointer (some ⟨2, 27, none⟩), .pointer (some p), .int .u64 386]) w := by kernel_rfl
theorem Tryd.elemV94 (a p : Addr) (W : World) (ha : W.cell? a = some (.pointer (some p))) :
    (ReflectliteValue.method (ReflectliteValue.valueError "reflectlite.Value.Elem" 0) ReflectliteValue.elem #[.agg #[.pointer (some ⟨2, 86, none⟩), .pointer (some a), .int .u64 150]]).run Tryd.prog W
      = .ok (.agg #[.pointer (some ⟨2, 27, none⟩), .pointer (some p), .int .u64 386]) W := by
  refine (bind_run (Tryd.parts94 a W)).trans ?_
  simp [ReflectliteValue.elem, loadVar, isAgg, underlying, Tryd.underlying86, ha, Result.andThen, Tryd.elemOf94, Tryd.mk30]
theorem Tryd.parts30a (a : Addr) (w : World) : (ReflectliteValue.parts (.agg #[.pointer (some ⟨2, 27, none⟩), .pointer (some a), .int .u64 386])).run Tryd.prog w = .ok (some (27, a, 386)) w := by kernel_rfl
theorem Tryd.parts30 (a : Addr) (w : World) : (ReflectliteValue.parts (.agg #[.pointer (some ⟨2, 27, none⟩), .pointer (some a), .int .u64 130])).run Tryd.prog w = .ok (some (27, a, 130)) w := by kernel_rfl
theorem Tryd.direct30 (w : World) : (Rtype.directlyAssignable 27 27).run Tryd.prog w = .ok true w := by kernel_rfl
theorem Tryd.set30 (ta b : Addr) (n : Int) (old : Value) (W : World) (hb : W.cell? b = some (.int .i64 n)) (ht : W.cell? ta = some old) (hf : W.frozen? ta = false) :
    (ReflectliteValue.set #[.agg #[.pointer (some ⟨2, 27, none⟩), .pointer (some ta), .int .u64 386], .agg #[.pointer (some ⟨2, 27, none⟩), .pointer (some b), .int .u64 130]]).run Tryd.prog W
      = .ok (.tuple #[]) (W.setCell ta (.int .i64 n)) := by
  refine (bind_run (Tryd.parts30a ta W)).trans ?_
  refine (bind_run (Tryd.parts30 b W)).trans ?_
  simp [ReflectliteValue.flagAddr, loadVar, isAgg, underlying, Tryd.underlying27, hb, Result.andThen, Tryd.direct30, storeVar, Value.cells, storeCells, Addr.add]
  rw [run_store Tryd.prog W ta _ _ (by rfl)]
  simp [ht, hf]
theorem Tryd.methodKind (h : Value) (w : World) : (Go.method 248 106 (.agg #[h]) "Kind").run Tryd.prog w = .ok (78, h) w := by kernel_rfl
theorem Tryd.methodElem (h : Value) (w : World) : (Go.method 248 106 (.agg #[h]) "Elem").run Tryd.prog w = .ok (90, .agg #[h]) w := by kernel_rfl
theorem Tryd.methodImplements (h : Value) (w : World) : (Go.method 248 106 (.agg #[h]) "Implements").run Tryd.prog w = .ok (91, .agg #[h]) w := by kernel_rfl
theorem Tryd.methodAssignableTo (h : Value) (w : World) : (Go.method 248 106 (.agg #[h]) "AssignableTo").run Tryd.prog w = .ok (88, .agg #[h]) w := by kernel_rfl
/-- The memory behind errors.As: four new blocks, and what the target points to. -/
def asW (w : World) (t : Addr) (n : Int) : World := ((((w.alloc (.cells #[.pointer (some t)] 86)).alloc (.cells #[.pointer (some ⟨2, 86, none⟩), .pointer (some ⟨w.heap.size, 0, none⟩), .int .u64 150] 95)).alloc (.cells #[.pointer (some ⟨2, 86, none⟩), .pointer (some ⟨w.heap.size, 0, none⟩), .int .u64 150] 95)).alloc (.cells #[.int .i64 n] 27)).setCell t (.int .i64 n)
set_option maxRecDepth 100000 in
set_option maxHeartbeats 4000000 in
theorem as_hit (t : Addr) (n : Int) (old : Value) (w : World) (hg : w.cell? ⟨0, 0, none⟩ = some (.iface 106 (.agg #[.pointer (some ⟨2, 31, none⟩)]))) (ht0 : w.cell? t = some old) (hf0 : w.frozen? t = false) :
    Calls Tryd.prog 44 #[.iface 27 (.int .i64 n), .iface 86 (.pointer (some t))] w fun ev w' => ev = .returned (.bool true) ∧ w' = asW w t n := by
  unfold asW
  have h58 := @run_callFunc_extern Tryd.prog 52 _ (fun args => ReflectliteValue.unpack (args.getD 0 (.tuple #[]))) Tryd.func52 (by kernel_rfl) (by kernel_rfl) (by kernel_rfl) (by kernel_rfl)
  have h59 := @run_callFunc_extern Tryd.prog 53 _ (ReflectliteValue.methodAny (ReflectliteValue.valueError "reflectlite.Value.Type" 0) (fun t _ _ _ => ReflectliteType.toType t)) Tryd.func53 (by kernel_rfl) (by kernel_rfl) (by kernel_rfl) (by kernel_rfl)
  have h60 := @run_callFunc_extern Tryd.prog 54 _ (ReflectliteValue.method (ReflectliteValue.valueError "reflectlite.Value.IsNil" 0) ReflectliteValue.isNil) Tryd.func54 (by kernel_rfl) (by kernel_rfl) (by kernel_rfl) (by kernel_rfl)
  have h81 := @run_callFunc_extern Tryd.prog 78 _ (ReflectliteType.abiMethod fun t => do pure (.int .u8 (← Rtype.kind t))) Tryd.func78 (by kernel_rfl) (by kernel_rfl) (by kernel_rfl) (by kernel_rfl)
  have h93 := @run_callFunc_extern Tryd.prog 90 _ (ReflectliteType.method ReflectliteType.elem) Tryd.func90 (by kernel_rfl) (by kernel_rfl) (by kernel_rfl) (by kernel_rfl)
  have h94 := @run_callFunc_extern Tryd.prog 91 _ (ReflectliteType.relation "Implements" ReflectliteType.implements_) Tryd.func91 (by kernel_rfl) (by kernel_rfl) (by kernel_rfl) (by kernel_rfl)
  have h64 := @run_callFunc_extern Tryd.prog 57 _ ReflectliteType.typeOf Tryd.func57 (by kernel_rfl) (by kernel_rfl) (by kernel_rfl) (by kernel_rfl)
  have h91 := @run_callFunc_extern Tryd.prog 88 _ (ReflectliteType.relation "AssignableTo" ReflectliteType.assignableTo) Tryd.func88 (by kernel_rfl) (by kernel_rfl) (by kernel_rfl) (by kernel_rfl)
  have h65 := @run_callFunc_extern Tryd.prog 58 _ (ReflectliteValue.method (ReflectliteValue.valueError "reflectlite.Value.Elem" 0) ReflectliteValue.elem) Tryd.func58 (by kernel_rfl) (by kernel_rfl) (by kernel_rfl) (by kernel_rfl)
  have h66 := @run_callFunc_extern Tryd.prog 59 _ ReflectliteValue.set Tryd.func59 (by kernel_rfl) (by kernel_rfl) (by kernel_rfl) (by kernel_rfl)
  have tO := Tryd.typeOf30
  have mA := Tryd.methodAssignableTo
  have a30 := Tryd.assignable30
  have v30 := Tryd.valueOf30
  have f94 := Tryd.valueOf94
  have f7 := Tryd.type94
  have mK := Tryd.methodKind
  have mE := Tryd.methodElem
  have mI := Tryd.methodImplements
  have k94 := Tryd.kind94
  have k30 := Tryd.kind30
  have e94 := Tryd.elem94
  have i30 := Tryd.implements30
  have n8 := Tryd.isNil94 ⟨w.heap.size, 0, none⟩ t ((w.alloc (.cells #[.pointer (some t)] 86)).alloc (.cells #[.pointer (some ⟨2, 86, none⟩), .pointer (some ⟨w.heap.size, 0, none⟩), .int .u64 150] 95)) (by simp)
  have hlt : 0 < w.heap.size := block_lt_of_cell hg
  have hg2 : ((w.alloc (.cells #[.pointer (some t)] 86)).alloc (.cells #[.pointer (some ⟨2, 86, none⟩), .pointer (some ⟨w.heap.size, 0, none⟩), .int .u64 150] 95)).cell? ⟨0, 0, none⟩ = some (.iface 106 (.agg #[.pointer (some ⟨2, 31, none⟩)])) := by
    rw [World.cell?_alloc_lt _ _ ⟨0, 0, none⟩ (by simp <;> omega), World.cell?_alloc_lt _ _ ⟨0, 0, none⟩ hlt]; exact hg
  have htl : t.block < w.heap.size := block_lt_of_cell ht0
  have el := Tryd.elemV94 ⟨w.heap.size, 0, none⟩ t (((w.alloc (.cells #[.pointer (some t)] 86)).alloc (.cells #[.pointer (some ⟨2, 86, none⟩), .pointer (some ⟨w.heap.size, 0, none⟩), .int .u64 150] 95)).alloc (.cells #[.pointer (some ⟨2, 86, none⟩), .pointer (some ⟨w.heap.size, 0, none⟩), .int .u64 150] 95)) (by rw [World.cell?_alloc_lt _ _ ⟨w.heap.size, 0, none⟩ (by simp; omega)]; simp)
  have st := Tryd.set30 t ⟨w.heap.size + 1 + 1 + 1, 0, none⟩ n old ((((w.alloc (.cells #[.pointer (some t)] 86)).alloc (.cells #[.pointer (some ⟨2, 86, none⟩), .pointer (some ⟨w.heap.size, 0, none⟩), .int .u64 150] 95)).alloc (.cells #[.pointer (some ⟨2, 86, none⟩), .pointer (some ⟨w.heap.size, 0, none⟩), .int .u64 150] 95)).alloc (.cells #[.int .i64 n] 27))
    (by rw [World.cell?_alloc_at _ _ _ _ (by simp)]; rfl)
    (by rw [World.cell?_alloc_lt _ _ t (by simp; omega), World.cell?_alloc_lt _ _ t (by simp; omega), World.cell?_alloc_lt _ _ t (by simp; omega), World.cell?_alloc_lt _ _ t htl]; exact ht0)
    (by rw [World.frozen?_alloc_old _ _ t (by simp; omega), World.frozen?_alloc_old _ _ t (by simp; omega), World.frozen?_alloc_old _ _ t (by simp; omega), World.frozen?_alloc_old _ _ t (Nat.ne_of_lt htl)]; exact hf0)
  go_enter Tryd.func44, Tryd.ntmps44
  go_wp2
  refine wp_loop_rounds 1 ?_
  rw [rounds_succ]
  go_wp2
  go_ret
  exact ⟨rfl, rfl⟩
end Go.Proofs.YtjobghphjkeohaaDoor
