/- Cells held against each other, one by one and in rows; a fact: rows. -/
import Derived.Test.YtpfihhilgeihoaaEvRow
import Derived.Laws.StructEq
namespace Go.Proofs.Ytpfihhilgeihoaa
open Go.RowKit Go.Sort
attribute [local go_sem ↓] Go.wp_at_zero Go.wp_at_succ
set_option linter.unusedSectionVars false
variable [Inhabited Cl] [Inhabited Ev]
theorem held42 : Try.prog.stoodInHeld 42 = false := by kernel_rfl
theorem fields42 : Try.prog.underlying 42 = some (.struct (Try.prog.fieldsOf 42)) := by kernel_rfl
theorem guard42 : Try.prog.eqGuardType Try.prog.depth 42 = false := by kernel_rfl
def eqC (x y : Cl) : Bool := (x.t.toList == y.t.toList) && ((x.r.toList == y.r.toList) && ((x.s.toList == y.s.toList) && (x.v.toList == y.v.toList)))
theorem eqC_iff {x y : Cl} : eqC x y = true ↔ x = y := by
  unfold eqC
  rw [same_bytes, same_bytes, same_bytes, same_bytes]
  simp only [Bool.and_eq_true, decide_eq_true_eq]
  constructor
  · rintro ⟨h1, h2, h3, h4⟩
    cases x; cases y
    simp only at h1 h2 h3 h4
    rw [h1, h2, h3, h4]
  · rintro rfl
    exact ⟨rfl, rfl, rfl, rfl⟩
theorem eqC_self (x : Cl) : eqC x x = true := eqC_iff.2 rfl
theorem cell_equal (x y : Cl) (w : World) : (Op.equalIn 10000 42 (.agg #[.string x.t, .string x.r, .string x.s, .string x.v]) (.agg #[.string y.t, .string y.r, .string y.s, .string y.v])).run Try.prog w = .ok (eqC x y) w := by
  rw [show (10000 : Nat) = 9999 + 1 from rfl, run_equalIn_agg w 9999 42 _ _ fields42 held42]
  simp only [Program.fieldsOf, Try.underlying42]
  unfold eqC
  go_simp
  by_cases h1 : x.t.toList = y.t.toList <;> by_cases h2 : x.r.toList = y.r.toList <;> by_cases h3 : x.s.toList = y.s.toList <;> by_cases h4 : x.v.toList = y.v.toList <;> simp [h1, h2, h3, h4]
theorem cell_eql (x y : Cl) (w : World) : (binOp .eql 42 (.agg #[.string x.t, .string x.r, .string x.s, .string x.v]) (.agg #[.string y.t, .string y.r, .string y.s, .string y.v])).run Try.prog w = .ok (.bool (eqC x y)) w := by
  rw [run_eql_struct, cell_equal]; rfl
theorem cell_neq (x y : Cl) (w : World) : (binOp .neq 42 (.agg #[.string x.t, .string x.r, .string x.s, .string x.v]) (.agg #[.string y.t, .string y.r, .string y.s, .string y.v])).run Try.prog w = .ok (.bool (!eqC x y)) w := by
  rw [run_neq_struct, cell_equal]; rfl
theorem eqlAt : EqlAt Try.prog 42 (fun x => .agg (cellL x).toArray) eqC := ⟨fun x y w => cell_eql x y w, GuardAt.agg _ guard42⟩
theorem neqAt : NeqAt Try.prog 42 (fun x => .agg (cellL x).toArray) eqC := ⟨fun x y w => cell_neq x y w, GuardAt.agg _ guard42⟩
theorem RowC.cells {w : World} {g : Nat} {cs : List Cl} (h : HoldsK cellL 4 w g 0 cs.toArray) : ∀ j, j < cs.length → ∀ i v, (cellL cs[j]!)[i]? = some v → w.cell? ⟨g, 0 + j * 4 + i, none⟩ = some v := by
  intro j hj i v hi
  have hi4 : i < 4 := (List.getElem?_eq_some_iff.1 hi).1
  have := (HoldsK.cell h (i := j) (c := i) (by simpa using hj) hi4).1
  rw [this]
  have e : cs.toArray[j]! = cs[j]! := by simp
  rw [e]
  rw [getElem!_pos _ i (by exact hi4)]
  exact (List.getElem?_eq_getElem (by exact hi4)).symm.trans hi
theorem allEq_self : ∀ cs : List Cl, Lib.allEq eqC cs cs = true
  | [] => rfl
  | c :: cs => by
    unfold Lib.allEq
    rw [eqC_self, allEq_self cs]
    rfl
set_option maxRecDepth 100000 in
set_option maxHeartbeats 1000000 in
theorem equalNone (p q : Option Addr) (c d : Nat) (w : World) : Calls Try.prog 24 #[.slice p 0 c, .slice q 0 d] w fun e w' => e = .returned (.bool true) ∧ w' = w := by
  go_enter Try.func24, Try.ntmps24
  go_wp2
  refine wp_loop_rounds 1 ?_
  rw [rounds_succ]
  go_wp2
  go_ret
  exact ⟨rfl, rfl⟩
/-- slices.Equal of two rows of the same cells. -/
theorem equal_any (b1 b2 : Nat) (v1 v2 : Value) (cs : List Cl) (w : World) (h1 : RowC w b1 v1 cs) (h2 : RowC w b2 v2 cs) (hl : cs.length ≤ 1000000) :
    Calls Try.prog 24 #[v1, v2] w fun e w' => e = .returned (.bool true) ∧ Below w.heap.size w w' := by
  by_cases hc : cs = []
  · subst hc
    have z : ∀ {b : Nat} {v : Value}, RowC w b v [] → ∃ p c, v = .slice p 0 c := fun h => by
      rcases h with ⟨rfl, _⟩ | ⟨g, cap, rfl, _⟩
      · exact ⟨_, _, rfl⟩
      · exact ⟨_, _, rfl⟩
    obtain ⟨p, c, rfl⟩ := z h1
    obtain ⟨q, d, rfl⟩ := z h2
    exact (equalNone p q c d w).mono fun e w' ⟨he, hw⟩ => ⟨he, by rw [hw]; exact Below.refl _ _⟩
  · rcases h1 with ⟨_, h⟩ | ⟨g1, cap1, rfl, _, hg1, hc1, _, H1⟩
    · exact absurd h hc
    · rcases h2 with ⟨_, h⟩ | ⟨g2, cap2, rfl, _, hg2, hc2, _, H2⟩
      · exact absurd h hc
      · have h := AnyQ.slices_Equal (ρ := laysEqual_ren) laysEqual 4 isAgg42 sizeOf42 cellL (fun _ => rfl) eqC neqAt g1 0 cs.length cap1 g2 0 cs.length cap2 cs cs w (Nat.le_refl _) (Nat.le_refl _) (by omega) (by omega) (RowC.cells H1) (RowC.cells H2)
        rw [List.take_length, allEq_self] at h
        exact h.mono fun e w' ⟨he, q, hw⟩ => ⟨he, by rw [hw]; exact ⟨rfl, rfl, rfl, Nat.le_refl _, fun _ _ => rfl⟩⟩
/-- slices.Contains. -/
theorem anyEq {cs : List Cl} {x : Cl} (h : x ∈ cs) : (cs.any fun y => eqC x y) = true := List.any_eq_true.2 ⟨x, h, eqC_self x⟩
theorem has_any (b : Nat) (v : Value) (cs : List Cl) (x : Cl) (w : World) (h1 : RowC w b v cs) (hl : cs.length ≤ 1000000) (hx : x ∈ cs) :
    Calls Try.prog 19 #[v, .agg #[.string x.t, .string x.r, .string x.s, .string x.v]] w fun e w' => e = .returned (.bool true) ∧ Below w.heap.size w w' := by
  rcases h1 with ⟨_, rfl⟩ | ⟨g, cap, rfl, _, hg, hc, _, H⟩
  · simp at hx
  · have h := AnyQ.slices_Contains (ρ := laysHas_ren) laysHas 4 isAgg42 sizeOf42 cellL (fun _ => rfl) eqC eqlAt g 0 cs.length cap cs x w (Nat.le_refl _) (by omega) (RowC.cells H)
    rw [List.take_length, anyEq hx] at h
    exact h
/-- The fact: an event of ann's, and ann gone. -/
def annB : ByteArray := ⟨#[97, 110, 110]⟩
def putE : Ev := ⟨1, ⟨#[97, 110, 110]⟩, ⟨#[116]⟩, ⟨#[114]⟩, ⟨#[118]⟩⟩
def goneE : Ev := ⟨3, ⟨#[97, 110, 110]⟩, ⟨#[]⟩, ⟨#[]⟩, ⟨#[]⟩⟩
theorem put_right : rightB putE = true := by decide +kernel
theorem gone_right : rightB goneE = true := by decide +kernel
theorem put_err : errOf putE = .nilIface := by unfold errOf; rw [if_pos put_right]
theorem gone_err : errOf goneE = .nilIface := by unfold errOf; rw [if_pos gone_right]
theorem put_brief : Brief putE := ⟨by decide, by decide, by decide, by decide⟩
theorem gone_brief : Brief goneE := ⟨by decide, by decide, by decide, by decide⟩
theorem put_at : app putE tab0 ⟨#[116]⟩ ⟨#[114]⟩ = some (⟨#[97, 110, 110]⟩, ⟨#[118]⟩) := by
  rw [app_right put_right, act_put rfl]
  rfl
theorem gone_all : app goneE (app putE tab0) = tab0 := by
  rw [app_right gone_right, app_right put_right]
  funext t r
  rw [act_gone (by decide) (by decide), act_put rfl]
  cases h : hereB t r putE
  · rfl
  · rfl
theorem RowC.len {w : World} {b : Nat} {v : Value} {cs : List Cl} (h : RowC w b v cs) : ∃ p c, v = .slice p cs.length c := by
  rcases h with ⟨rfl, rfl⟩ | ⟨g, cap, rfl, _⟩
  · exact ⟨_, _, rfl⟩
  · exact ⟨_, _, rfl⟩
theorem nilIface_eq (w : World) : (binOp .eql 24 .nilIface .nilIface).run Try.prog w = .ok (.bool true) w := by kernel_rfl
theorem nilIface_ne (w : World) : (binOp .neq 24 .nilIface .nilIface).run Try.prog w = .ok (.bool false) w := by kernel_rfl
end Go.Proofs.Ytpfihhilgeihoaa
