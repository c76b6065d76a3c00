/- Events in a row of memory, as a law is handed them; which are few, and short. -/
import Derived.Test.YtpfihhilgeihoaaCells
namespace Go.Proofs.Ytpfihhilgeihoaa
open Go.RowKit Go.Sort
attribute [local go_sem ↓] Go.wp_at_zero Go.wp_at_succ
def ev0 : Ev := ⟨0, ByteArray.empty, ByteArray.empty, ByteArray.empty, ByteArray.empty⟩
set_option linter.unusedSectionVars false
variable [Inhabited Cl] [Inhabited Ev]
/-- The events lie in the row that a slice names. -/
def EvRow (w : World) (v : Value) (es : List Ev) : Prop :=
  ((∃ ao cap, v = .slice ao 0 cap) ∧ es = []) ∨ ∃ b off cap, v = .slice (some ⟨b, off, none⟩) es.length cap ∧ es.length ≤ cap ∧ b < w.heap.size ∧ ∀ j, j < es.length → ∀ i u, (evL es[j]!)[i]? = some u → w.cell? ⟨b, off + j * 5 + i, none⟩ = some u
theorem EvRow.turned {w w' : World} {v : Value} {es : List Ev} {B : Nat} (h : EvRow w v es) (k : Below B w w') (hB : w.heap.size ≤ B) : EvRow w' v es := by
  rcases h with h | ⟨b, off, cap, rfl, hc, hb, hx⟩
  · exact .inl h
  · exact .inr ⟨b, off, cap, rfl, hc, Nat.lt_of_lt_of_le hb k.size, fun j hj i u hu => (k.cell (p := ⟨b, off + j * 5 + i, none⟩) (Nat.lt_of_lt_of_le hb hB)).trans (hx j hj i u hu)⟩
theorem EvRow.stirred {w w' : World} {v : Value} {es : List Ev} {L : List Nat} (h : EvRow w v es) (k : Stirred L w w') (hL : ∀ b, v.ownBlock = some b → b ∉ L) : EvRow w' v es := by
  rcases h with h | ⟨b, off, cap, rfl, hc, hb, hx⟩
  · exact .inl h
  · exact .inr ⟨b, off, cap, rfl, hc, Nat.lt_of_lt_of_le hb k.size, fun j hj i u hu => (k.cell (p := ⟨b, off + j * 5 + i, none⟩) hb (hL b rfl)).trans (hx j hj i u hu)⟩
theorem EvRow.slice {w : World} {v : Value} {es : List Ev} (h : EvRow w v es) : ∃ ao cap, v = .slice ao es.length cap := by
  rcases h with ⟨⟨ao, cap, rfl⟩, rfl⟩ | ⟨b, off, cap, rfl, _⟩
  · exact ⟨_, _, rfl⟩
  · exact ⟨_, _, rfl⟩
theorem isAgg36 (w : World) : (isAgg 36).run Try.prog w = .ok true w := by kernel_rfl
theorem sizeOf36 (w : World) : (Go.sizeOf 36).run Try.prog w = .ok 5 w := by kernel_rfl
set_option maxRecDepth 100000 in
set_option maxHeartbeats 1000000 in
theorem indexNone (p : Option Addr) (c : Nat) (fv : Value) (w : World) : Calls Try.prog 44 #[.slice p 0 c, fv] w fun e w' => e = .returned (.int .i64 (-1)) ∧ w' = w := by
  go_enter Try.func44, Try.ntmps44
  go_wp2
  refine wp_loop_rounds 1 ?_
  rw [rounds_succ]
  go_wp2
  go_ret
  exact ⟨rfl, rfl⟩
set_option maxRecDepth 100000 in
set_option maxHeartbeats 1000000 in
theorem containsNone (p : Option Addr) (c : Nat) (fv : Value) (w : World) : Calls Try.prog 17 #[.slice p 0 c, fv] w fun e w' => e = .returned (.bool false) ∧ w' = w := by
  have I := hide (indexNone p c fv w)
  go_enter Try.func17, Try.ntmps17
  go_wp2_with (go_at_call 44; (with_reducible refine I.out.mono ?_); rintro e w1 ⟨rfl, rfl⟩)
  go_ret
  exact ⟨rfl, rfl⟩
/-- slices.ContainsFunc over events. -/
theorem containsEv (v : Value) (es : List Ev) (g : Nat) (lb : Array Value) (eg : ∀ args w, (callFunc g args).run Try.prog w = .ok (.enter g args) w) (p : Ev → Bool) (w : World) (hv : EvRow w v es) (hl : es.length ≤ 1000)
    (hp : PredBelow Try.prog g lb (fun x => .agg (evL x).toArray) p w) :
    Calls Try.prog 17 #[v, .func (.func g) #[] lb] w fun e w' => e = .returned (.bool (es.any p)) ∧ Below w.heap.size w w' := by
  rcases hv with ⟨⟨ao, cap, rfl⟩, rfl⟩ | ⟨b, off, cap, rfl, hc, hb, hx⟩
  · exact (containsNone ao cap _ w).mono fun e w' ⟨he, hw⟩ => ⟨he, by rw [hw]; exact Below.refl _ _⟩
  · have h := AnyQ.slices_ContainsFunc (ρ := laysAnyEv_ren) laysAnyEv 5 isAgg36 sizeOf36 evL (fun _ => rfl) p g lb eg b off es.length cap es w hp (Nat.le_refl _) (by omega) hb hx
    rw [List.take_length] at h
    exact h
/-- An event that is too long for the laws. -/
def bigB (e : Ev) : Bool := decide (40 < e.s.size) || (decide (40 < e.t.size) || (decide (40 < e.r.size) || decide (60 < e.v.size)))
set_option maxRecDepth 100000 in
set_option maxHeartbeats 2000000 in
theorem big_any (e : Ev) (W : World) : Calls Try.prog 33 #[.agg #[.int .i64 e.k, .string e.s, .string e.t, .string e.r, .string e.v]] W fun x w' => x = .returned (.bool (bigB e)) ∧ Below W.heap.size W w' := by
  unfold bigB
  by_cases h1 : 40 < e.s.size
  · have d1 : decide ((40 : Int) < e.s.size) = true := by simp; omega
    go_enter Try.func33, Try.ntmps33
    go_wp2
    go_ret
    exact ⟨ret_val (by simp [h1]), (Below.refl _ W).alloc (Nat.le_refl _) _⟩
  · have d1 : decide ((40 : Int) < e.s.size) = false := by simp; omega
    by_cases h2 : 40 < e.t.size
    · have d2 : decide ((40 : Int) < e.t.size) = true := by simp; omega
      go_enter Try.func33, Try.ntmps33
      go_wp2
      go_ret
      exact ⟨ret_val (by simp [h2]), (Below.refl _ W).alloc (Nat.le_refl _) _⟩
    · have d2 : decide ((40 : Int) < e.t.size) = false := by simp; omega
      by_cases h3 : 40 < e.r.size
      · have d3 : decide ((40 : Int) < e.r.size) = true := by simp; omega
        go_enter Try.func33, Try.ntmps33
        go_wp2
        go_ret
        exact ⟨ret_val (by simp [h3]), (Below.refl _ W).alloc (Nat.le_refl _) _⟩
      · have d3 : decide ((40 : Int) < e.r.size) = false := by simp; omega
        go_enter Try.func33, Try.ntmps33
        go_wp2
        go_ret
        exact ⟨ret_val (by simp [h1, h2, h3]; omega), (Below.refl _ W).alloc (Nat.le_refl _) _⟩
theorem big_pred (w : World) : PredBelow Try.prog 33 #[] (fun x => .agg (evL x).toArray) bigB w := fun W x hb =>
  (big_any x W).mono fun _ _ ⟨he, h⟩ => ⟨he, hb.trans (h.mono hb.size)⟩
def fewB (es : List Ev) : Bool := decide (es.length ≤ 30) && !es.any bigB
set_option maxRecDepth 100000 in
set_option maxHeartbeats 1000000 in
theorem few_any (v : Value) (es : List Ev) (w : World) (hv : EvRow w v es) : Calls Try.prog 10 #[v] w fun x w' => x = .returned (.bool (fewB es)) ∧ Below w.heap.size w w' := by
  unfold fewB
  by_cases h1 : es.length ≤ 30
  · have C := hide (containsEv v es 33 #[] (enters_of Try.func33 (by kernel_rfl) rfl) bigB w hv (by omega) (big_pred w))
    obtain ⟨ao, cap, rfl⟩ := hv.slice
    have d1 : decide ((es.length : Int) ≤ 30) = true := by simp; omega
    clear hv
    generalize es.any bigB = b at C ⊢
    go_enter Try.func10, Try.ntmps10
    go_wp2_with (go_at_call 17; (with_reducible refine C.out.mono ?_); rintro x w1 ⟨rfl, hb⟩)
    go_ret
    exact ⟨ret_val (by simp [h1]), hb⟩
  · obtain ⟨ao, cap, rfl⟩ := hv.slice
    have d1 : decide ((es.length : Int) ≤ 30) = false := by simp; omega
    clear hv
    go_enter Try.func10, Try.ntmps10
    go_wp2
    go_ret
    exact ⟨ret_val (by simp [h1]), Below.refl _ _⟩
theorem few_brief {es : List Ev} (h : fewB es = true) : es.length ≤ 30 ∧ ∀ e ∈ es, Brief e := by
  unfold fewB at h
  simp only [Bool.and_eq_true, decide_eq_true_eq, Bool.not_eq_true', List.any_eq_false] at h
  refine ⟨h.1, fun e he => ?_⟩
  have := h.2 e he
  unfold bigB at this
  simp at this
  exact ⟨by omega, by omega, by omega, by omega⟩
end Go.Proofs.Ytpfihhilgeihoaa
