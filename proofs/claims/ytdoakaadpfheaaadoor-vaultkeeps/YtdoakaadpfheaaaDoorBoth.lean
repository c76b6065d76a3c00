/- Both vaults side by side, as the law has them: what each call leaves of the other. -/
import Derived.Test.YtdoakaadpfheaaaDoorSame
import Derived.Test.YtdoakaadpfheaaaDoorKeys
namespace Go.Proofs.YtdoakaadpfheaaaDoor
open Go.RowKit Go.Maps Go.Sort
attribute [local go_sem ↓] Go.wp_at_zero Go.wp_at_succ
/-- How a call of the program's vault leaves it. -/
def Upd (w w' : World) (p : Nat) (mo mo' : Option Nat) (sec : ByteArray) (n : Nat) (σ : Kept) : Prop :=
  ProgV w' p mo' sec n σ ∧ (mo' = mo ∨ (mo = none ∧ ∃ m, mo' = some m ∧ w.heap.size ≤ m)) ∧ Stirred (p :: mo.toList) w w'
/-- Both vaults, and the law's own act in block X; W: the world when the law began. -/
structure Half (W w : World) (c b bh bs p : Nat) (mo : Option Nat) (sec : ByteArray) (nr : Nat) (σr : Kept) (np : Nat) (σp : Kept) (X : Nat) (cs : Array Value) : Prop where
  ref : RefV w c b bh bs sec nr σr
  prog : ProgV w p mo sec np σp
  apart : ∀ k ∈ p :: mo.toList, k ∉ [c, b, bh, bs]
  low : ∀ k ∈ p :: mo.toList, W.heap.size ≤ k
  lowR : ∀ k ∈ [bh, bs], W.heap.size ≤ k
  below : Below W.heap.size W w
  row : HasR w X 57 cs
  xr : X ∉ [bh, bs]
  xp : X ∉ p :: mo.toList
theorem Half.refStep {W w w' : World} {c b bh bs p : Nat} {mo : Option Nat} {sec : ByteArray} {nr np nr' : Nat} {σr σp σr' : Kept} {X : Nat} {cs : Array Value} (h : Half W w c b bh bs p mo sec nr σr np σp X cs) (k : RefKeeps w w' c b bh bs sec nr' σr') :
    Half W w' c b bh bs p mo sec nr' σr' np σp X cs := by
  obtain ⟨hV, t⟩ := k
  refine ⟨hV, h.prog.turned t ?_ ?_, h.apart, h.low, h.lowR, h.below.trans (t.below h.below.size h.lowR), h.row.turned t h.xr, h.xr, h.xp⟩
  · intro hm
    have h1 := h.apart p (by simp)
    simp at h1 hm
    omega
  · intro m e hm
    have h1 := h.apart m (by rw [e]; simp)
    simp at h1 hm
    omega
theorem Half.progStep {W w w' : World} {c b bh bs p : Nat} {mo mo' : Option Nat} {sec : ByteArray} {nr np np' : Nat} {σr σp σp' : Kept} {X : Nat} {cs : Array Value} (h : Half W w c b bh bs p mo sec nr σr np σp X cs) (k : Upd w w' p mo mo' sec np' σp') :
    Half W w' c b bh bs p mo' sec nr σr np' σp' X cs := by
  obtain ⟨hV, hm, t⟩ := k
  obtain ⟨D1, o1, _⟩ := h.ref.had
  obtain ⟨D2, o2, _⟩ := h.ref.has
  have l1 := o1.lt
  have l2 := o2.lt
  have l3 := h.ref.row.lt
  have l4 := h.ref.ref.lt
  have l5 := h.row.lt
  have l6 := h.below.size
  refine ⟨h.ref.turned t h.apart, hV, ?_, ?_, h.lowR, h.below.trans (t.below h.below.size h.low), h.row.turned t h.xp, h.xr, ?_⟩
  · rcases hm with rfl | ⟨rfl, m, rfl, hl⟩
    · exact h.apart
    · intro j hj
      rcases List.mem_cons.1 hj with rfl | hj
      · exact h.apart _ (by simp)
      · simp at hj
        subst hj
        simp
        omega
  · rcases hm with rfl | ⟨rfl, m, rfl, hl⟩
    · exact h.low
    · intro j hj
      rcases List.mem_cons.1 hj with rfl | hj
      · exact h.low _ (by simp)
      · simp at hj
        subst hj
        omega
  · rcases hm with rfl | ⟨rfl, m, rfl, hl⟩
    · exact h.xp
    · intro hx
      rcases List.mem_cons.1 hx with rfl | hj
      · exact h.xp (by simp)
      · simp at hj
        omega
theorem Half.still {W w w' : World} {c b bh bs p : Nat} {mo : Option Nat} {sec : ByteArray} {nr np : Nat} {σr σp : Kept} {X : Nat} {cs : Array Value} (h : Half W w c b bh bs p mo sec nr σr np σp X cs) (k : Below w.heap.size w w') :
    Half W w' c b bh bs p mo sec nr σr np σp X cs :=
  ⟨h.ref.below k, h.prog.below k, h.apart, h.low, h.lowR, h.below.trans (k.mono h.below.size), h.row.turned (Stirred.of_below k []) (by simp), h.xr, h.xp⟩
/-- Both, where they agree, between the law's rounds. -/
structure Agree (W w : World) (c b bh bs p : Nat) (mo : Option Nat) (sec : ByteArray) (n : Nat) (σ : Kept) : Prop where
  ref : RefV w c b bh bs sec n σ
  prog : ProgV w p mo sec n σ
  few : ∀ l, (σ l).1 ≤ n
  apart : ∀ k ∈ p :: mo.toList, k ∉ [c, b, bh, bs]
  low : ∀ k ∈ p :: mo.toList, W.heap.size ≤ k
  lowR : ∀ k ∈ [bh, bs], W.heap.size ≤ k
  below : Below W.heap.size W w
theorem Agree.begin {W w : World} {c b bh bs p : Nat} {mo : Option Nat} {sec : ByteArray} {n : Nat} {σ : Kept} (h : Agree W w c b bh bs p mo sec n σ) (cs : Array Value) : Half W (w.alloc (.cells cs 57)) c b bh bs p mo sec n σ n σ w.heap.size cs := by
  have hb : Below w.heap.size w (w.alloc (.cells cs 57)) := (Below.refl _ w).alloc (Nat.le_refl _) _
  obtain ⟨D1, o1, _⟩ := h.ref.had
  obtain ⟨D2, o2, _⟩ := h.ref.has
  have l1 := o1.lt
  have l2 := o2.lt
  have l3 := h.prog.row.lt
  refine ⟨h.ref.below hb, h.prog.below hb, h.apart, h.low, h.lowR, h.below.trans (hb.mono h.below.size), HasR.new w 57 cs, by simp; omega, ?_⟩
  intro hx
  rcases List.mem_cons.1 hx with hx | hx
  · omega
  · cases mo with
    | none => simp at hx
    | some m =>
      obtain ⟨D, o, _⟩ := h.prog.held m rfl
      have := o.lt
      simp at hx
      omega
theorem Half.ends {W w : World} {c b bh bs p : Nat} {mo : Option Nat} {sec : ByteArray} {n : Nat} {σ : Kept} {X : Nat} {cs : Array Value} (h : Half W w c b bh bs p mo sec n σ n σ X cs) (hf : ∀ l, (σ l).1 ≤ n) : Agree W w c b bh bs p mo sec n σ :=
  ⟨h.ref, h.prog, hf, h.apart, h.low, h.lowR, h.below⟩
set_option maxRecDepth 100000 in
set_option maxHeartbeats 1000000 in
theorem refNew_bad (c : Nat) (sec : ByteArray) (w : World) (h : sec.size ≠ 16) :
    Calls Tryd.prog 32 #[.pointer (some ⟨c, 0, none⟩), .string sec] w fun e w' => e = .returned (.tuple #[.pointer none, .int .i64 1]) ∧ w' = w := by
  have d : decide ((sec.size : Int) = 16) = false := decide_eq_false (by omega)
  go_enter Tryd.func32, Tryd.ntmps32
  go_wp2
  go_ret2
  exact ⟨rfl, rfl⟩
set_option maxRecDepth 100000 in
set_option maxHeartbeats 1000000 in
theorem new_bad (sec : ByteArray) (w : World) (h : sec.size ≠ 16) :
    Calls Tryd.prog 33 #[.string sec] w fun e w' => e = .returned (.tuple #[.pointer none, .iface 30 (.int .i64 1)]) ∧ w' = w := by
  have d : decide ((sec.size : Int) = 16) = false := decide_eq_false (by omega)
  go_enter Tryd.func33, Tryd.ntmps33
  go_wp2
  go_ret2
  exact ⟨rfl, rfl⟩
set_option maxRecDepth 100000 in
set_option maxHeartbeats 1000000 in
theorem refNew_ok (c : Nat) (sec : ByteArray) (w : World) (h : sec.size = 16) (hR : RefR w c) :
    Calls Tryd.prog 32 #[.pointer (some ⟨c, 0, none⟩), .string sec] w fun e w' => e = .returned (.tuple #[.pointer (some ⟨w.heap.size + 2, 0, none⟩), .int .i64 0]) ∧ RefV w' c (w.heap.size + 2) w.heap.size (w.heap.size + 1) sec 0 kept0 ∧ Below w.heap.size w w' := by
  have d : decide ((sec.size : Int) = 16) = true := decide_eq_true (by omega)
  have hmm := @run_makeMap Tryd.prog
  have HR := hide hR
  clear hR
  go_enter Tryd.func32, Tryd.ntmps32
  go_wp2
  go_ret2
  have hb : Below w.heap.size w (((w.alloc (.map #[] 0)).alloc (.map #[] 0)).alloc (.cells #[.pointer (some ⟨c, 0, none⟩), .string sec, .map (some w.heap.size), .map (some (w.heap.size + 1))] 102)) :=
    (((Below.refl _ w).alloc (Nat.le_refl _) _).alloc (by simp) _).alloc (by simp; omega) _
  have e1 : (w.alloc (.map #[] 0)).heap.size = w.heap.size + 1 := by simp
  have e2 : ((w.alloc (.map #[] 0)).alloc (.map #[] 0)).heap.size = w.heap.size + 2 := by simp
  refine ⟨rfl, ⟨?_, ⟨_, ((World.ownsMap_made w Tryd.prog 9 _).alloc _).alloc _, hadIs0⟩, ⟨_, ?_, hasIs0⟩, HR.out.below hb HR.out.lt, by omega⟩, hb⟩
  · have h := HasR.new ((w.alloc (.map #[] 0)).alloc (.map #[] 0)) 102 #[.pointer (some ⟨c, 0, none⟩), .string sec, .map (some w.heap.size), .map (some (w.heap.size + 1))]
    rw [e2] at h
    exact h
  · have h := (World.ownsMap_made (w.alloc (.map #[] 0)) Tryd.prog 9 (plainElem (H := Unit) Tryd.prog 4)).alloc (.cells #[.pointer (some ⟨c, 0, none⟩), .string sec, .map (some w.heap.size), .map (some (w.heap.size + 1))] 102)
    rw [e1] at h
    exact h
set_option maxRecDepth 100000 in
set_option maxHeartbeats 1000000 in
theorem new_ok (sec : ByteArray) (w : World) (h : sec.size = 16) :
    Calls Tryd.prog 33 #[.string sec] w fun e w' => e = .returned (.tuple #[.pointer (some ⟨w.heap.size, 0, none⟩), .nilIface]) ∧ ProgV w' w.heap.size none sec 0 kept0 ∧ Below w.heap.size w w' := by
  have d : decide ((sec.size : Int) = 16) = true := decide_eq_true (by omega)
  go_enter Tryd.func33, Tryd.ntmps33
  go_wp2
  go_ret2
  exact ⟨rfl, ⟨HasR.new w 105 _, fun _ => rfl, fun m e => by cases e⟩, (Below.refl _ w).alloc (Nat.le_refl _) _⟩
end Go.Proofs.YtdoakaadpfheaaaDoor
