/- Texts of this proof, one behind the other. -/
import Derived.Shelf.SlicesQ.IndexFunc
import Derived.Laws.StructEq
import Derived.Shelf.SlicesQ.Equal
import Derived.Test.YtdjpghgnjcmdnaaGreatDoorPart25
/- Events in a row of memory, as a law is handed them; which are few, and short. -/
namespace Go.Proofs.YtdjpghgnjcmdnaaGreatDoor
open Go.RowKit Go.Sort
attribute [local go_sem ↓] Go.wp_at_zero Go.wp_at_succ
def ev0 : Ev := ⟨0, ByteArray.empty, ByteArray.empty, ByteArray.empty, ByteArray.empty⟩
set_option linter.unusedSectionVars false
variable [Inhabited Cl] [Inhabited Ev]
/-- The events lie in the row that a slice names. -/
def EvRow (w : World) (v : Value) (es : List Ev) : Prop :=
  ((∃ ao cap, v = .slice ao 0 cap) ∧ es = []) ∨ ∃ b off cap, v = .slice (some ⟨b, off, none⟩) es.length cap ∧ es.length ≤ cap ∧ b < w.heap.size ∧ ∀ j, j < es.length → ∀ i u, (evL es[j]!)[i]? = some u → w.cell? ⟨b, off + j * 5 + i, none⟩ = some u
theorem EvRow.turned {w w' : World} {v : Value} {es : List Ev} {B : Nat} (h : EvRow w v es) (k : Below B w w') (hB : w.heap.size ≤ B) : EvRow w' v es := by
  rcases h with h | ⟨b, off, cap, rfl, hc, hb, hx⟩
  · exact .inl h
  · exact .inr ⟨b, off, cap, rfl, hc, Nat.lt_of_lt_of_le hb k.size, fun j hj i u hu => (k.cell (p := ⟨b, off + j * 5 + i, none⟩) (Nat.lt_of_lt_of_le hb hB)).trans (hx j hj i u hu)⟩
theorem EvRow.stirred {w w' : World} {v : Value} {es : List Ev} {L : List Nat} (h : EvRow w v es) (k : Stirred L w w') (hL : ∀ b, v.ownBlock = some b → b ∉ L) : EvRow w' v es := by
  rcases h with h | ⟨b, off, cap, rfl, hc, hb, hx⟩
  · exact .inl h
  · exact .inr ⟨b, off, cap, rfl, hc, Nat.lt_of_lt_of_le hb k.size, fun j hj i u hu => (k.cell (p := ⟨b, off + j * 5 + i, none⟩) hb (hL b rfl)).trans (hx j hj i u hu)⟩
theorem EvRow.slice {w : World} {v : Value} {es : List Ev} (h : EvRow w v es) : ∃ ao cap, v = .slice ao es.length cap := by
  rcases h with ⟨⟨ao, cap, rfl⟩, rfl⟩ | ⟨b, off, cap, rfl, _⟩
  · exact ⟨_, _, rfl⟩
  · exact ⟨_, _, rfl⟩
theorem EvRow.spot {w : World} {ao : Option Addr} {n cap : Nat} {es : List Ev} {k : Nat} (h : EvRow w (.slice ao n cap) es) (hk : k < es.length) : ∃ b off, ao = some ⟨b, off, none⟩ ∧ es.length ≤ cap ∧ ∀ i u, (evL es[k]!)[i]? = some u → w.cell? ⟨b, off + k * 5 + i, none⟩ = some u := by
  rcases h with ⟨_, rfl⟩ | ⟨b, off, cap', hv, hc, hb, hx⟩
  · simp at hk
  · simp only [Value.slice.injEq] at hv
    exact ⟨b, off, hv.1, by rw [hv.2.2]; exact hc, hx k hk⟩
end Go.Proofs.YtdjpghgnjcmdnaaGreatDoor

/- Few events, and short ones: slices.ContainsFunc over events; the law's own few. -/
namespace Go.Proofs.YtdjpghgnjcmdnaaGreatDoor
open Go.RowKit Go.Sort Go.Shelf
attribute [local go_sem ↓] Go.wp_at_zero Go.wp_at_succ
set_option linter.unusedSectionVars false
variable [Inhabited Cl] [Inhabited Ev]
theorem isAgg36 (w : World) : (isAgg 69).run Tryz.prog w = .ok true w := by kernel_rfl
theorem sizeOf36 (w : World) : (Go.sizeOf 69).run Tryz.prog w = .ok 5 w := by kernel_rfl
/-- An event that is too long for the laws. -/
def bigB (e : Ev) : Bool := decide (40 < e.s.size) || (decide (40 < e.t.size) || (decide (40 < e.r.size) || decide (60 < e.v.size)))
def fewB (es : List Ev) : Bool := decide (es.length ≤ 30) && !es.any bigB
theorem few_brief {es : List Ev} (h : fewB es = true) : es.length ≤ 30 ∧ ∀ e ∈ es, Brief e := by
  unfold fewB at h
  simp only [Bool.and_eq_true, decide_eq_true_eq, Bool.not_eq_true', List.any_eq_false] at h
  refine ⟨h.1, fun e he => ?_⟩
  have := h.2 e he
  unfold bigB at this
  simp at this
  exact ⟨by omega, by omega, by omega, by omega⟩
end Go.Proofs.YtdjpghgnjcmdnaaGreatDoor

/- Cells held against each other, one by one and in rows; a fact: rows. -/
namespace Go.Proofs.YtdjpghgnjcmdnaaGreatDoor
open Go.RowKit Go.Sort
attribute [local go_sem ↓] Go.wp_at_zero Go.wp_at_succ
set_option linter.unusedSectionVars false
variable [Inhabited Cl]
theorem held42 : Tryz.prog.stoodInHeld 129 = false := by kernel_rfl
theorem fields42 : Tryz.prog.underlying 129 = some (.struct (Tryz.prog.fieldsOf 129)) := by kernel_rfl
theorem guard42 : Tryz.prog.eqGuardType Tryz.prog.depth 129 = false := by kernel_rfl
def eqC (x y : Cl) : Bool := (x.t.toList == y.t.toList) && ((x.r.toList == y.r.toList) && ((x.s.toList == y.s.toList) && (x.v.toList == y.v.toList)))
theorem eqC_iff {x y : Cl} : eqC x y = true ↔ x = y := by
  unfold eqC
  rw [same_bytes, same_bytes, same_bytes, same_bytes]
  simp only [Bool.and_eq_true, decide_eq_true_eq]
  constructor
  · rintro ⟨h1, h2, h3, h4⟩
    cases x; cases y
    simp only at h1 h2 h3 h4
    rw [h1, h2, h3, h4]
  · rintro rfl
    exact ⟨rfl, rfl, rfl, rfl⟩
theorem eqC_self (x : Cl) : eqC x x = true := eqC_iff.2 rfl
set_option maxRecDepth 100000 in
theorem cell_equal (x y : Cl) (w : World) : (Op.equalIn 10000 129 (.agg #[.string x.t, .string x.r, .string x.s, .string x.v]) (.agg #[.string y.t, .string y.r, .string y.s, .string y.v])).run Tryz.prog w = .ok (eqC x y) w := by
  rw [show (10000 : Nat) = 9999 + 1 from rfl, run_equalIn_agg w 9999 129 _ _ fields42 held42]
  simp only [Program.fieldsOf, Tryz.underlying129]
  unfold eqC
  go_simp
  by_cases h1 : x.t.toList = y.t.toList <;> by_cases h2 : x.r.toList = y.r.toList <;> by_cases h3 : x.s.toList = y.s.toList <;> by_cases h4 : x.v.toList = y.v.toList <;> simp [h1, h2, h3, h4]
set_option maxRecDepth 100000 in
theorem cell_eql (x y : Cl) (w : World) : (binOp .eql 129 (.agg #[.string x.t, .string x.r, .string x.s, .string x.v]) (.agg #[.string y.t, .string y.r, .string y.s, .string y.v])).run Tryz.prog w = .ok (.bool (eqC x y)) w := by
  rw [run_eql_struct, cell_equal]; rfl
set_option maxRecDepth 100000 in
theorem cell_neq (x y : Cl) (w : World) : (binOp .neq 129 (.agg #[.string x.t, .string x.r, .string x.s, .string x.v]) (.agg #[.string y.t, .string y.r, .string y.s, .string y.v])).run Tryz.prog w = .ok (.bool (!eqC x y)) w := by
  rw [run_neq_struct, cell_equal]; rfl
end Go.Proofs.YtdjpghgnjcmdnaaGreatDoor

/- Cells held against each other in rows; a fact: rows. -/
namespace Go.Proofs.YtdjpghgnjcmdnaaGreatDoor
open Go.RowKit Go.Sort Go.Shelf
attribute [local go_sem ↓] Go.wp_at_zero Go.wp_at_succ
set_option linter.unusedSectionVars false
variable [Inhabited Cl] [Inhabited Ev]
set_option maxRecDepth 100000 in
theorem neqAt : NeqAt Tryz.prog 129 (fun x => .agg (cellL x).toArray) eqC := ⟨fun x y w => cell_neq x y w, GuardAt.agg _ guard42⟩
theorem RowC.cells {w : World} {g : Nat} {cs : List Cl} (h : HoldsK cellL 4 w g 0 cs.toArray) : ∀ j, j < cs.length → ∀ i v, (cellL cs[j]!)[i]? = some v → w.cell? ⟨g, 0 + j * 4 + i, none⟩ = some v := by
  intro j hj i v hi
  have hi4 : i < 4 := (List.getElem?_eq_some_iff.1 hi).1
  have := (HoldsK.cell h (i := j) (c := i) (by simpa using hj) hi4).1
  rw [this]
  have e : cs.toArray[j]! = cs[j]! := by simp
  rw [e]
  rw [getElem!_pos _ i (by exact hi4)]
  exact (List.getElem?_eq_getElem (by exact hi4)).symm.trans hi
theorem allEq_self : ∀ cs : List Cl, Lib.allEq eqC cs cs = true
  | [] => rfl
  | c :: cs => by
    unfold Lib.allEq
    rw [eqC_self, allEq_self cs]
    rfl
/-- The fact: an event of ann's, and ann gone. -/
def annB : ByteArray := ⟨#[97, 110, 110]⟩
def putE : Ev := ⟨1, ⟨#[97, 110, 110]⟩, ⟨#[116]⟩, ⟨#[114]⟩, ⟨#[118]⟩⟩
def goneE : Ev := ⟨3, ⟨#[97, 110, 110]⟩, ⟨#[]⟩, ⟨#[]⟩, ⟨#[]⟩⟩
theorem put_right : rightB putE = true := by decide +kernel
theorem gone_right : rightB goneE = true := by decide +kernel
theorem put_err : errOf putE = .nilIface := by unfold errOf; rw [if_pos put_right]
theorem gone_err : errOf goneE = .nilIface := by unfold errOf; rw [if_pos gone_right]
theorem put_brief : Brief putE := ⟨by decide, by decide, by decide, by decide⟩
theorem gone_brief : Brief goneE := ⟨by decide, by decide, by decide, by decide⟩
theorem put_at : app putE tab0 ⟨#[116]⟩ ⟨#[114]⟩ = some (⟨#[97, 110, 110]⟩, ⟨#[118]⟩) := by
  rw [app_right put_right, act_put rfl]
  rfl
theorem gone_all : app goneE (app putE tab0) = tab0 := by
  rw [app_right gone_right, app_right put_right]
  funext t r
  rw [act_gone (by decide) (by decide), act_put rfl]
  cases h : hereB t r putE
  · rfl
  · rfl
theorem RowC.len {w : World} {b : Nat} {v : Value} {cs : List Cl} (h : RowC w b v cs) : ∃ p c, v = .slice p cs.length c := by
  rcases h with ⟨rfl, rfl⟩ | ⟨g, cap, rfl, _⟩
  · exact ⟨_, _, rfl⟩
  · exact ⟨_, _, rfl⟩
theorem nilIface_eq (w : World) : (binOp .eql 45 .nilIface .nilIface).run Tryz.prog w = .ok (.bool true) w := by kernel_rfl
theorem nilIface_ne (w : World) : (binOp .neq 45 .nilIface .nilIface).run Tryz.prog w = .ok (.bool false) w := by kernel_rfl
end Go.Proofs.YtdjpghgnjcmdnaaGreatDoor
