/- Lists of events, and of bools, as a row's condition reads them. -/
import Derived.Test.YtpfihhilgeihoaaTurns
import Derived.ProofKit
import Derived.OpenShut
import Derived.Stop.Joined
import Derived.Deep.Strs
namespace Go.Proofs.Ytpfihhilgeihoaa
open Go.ChangeShapes Go.WideShapes Go.ChangeAt Go.RowKit
theorem own : ownKnob Try.prog.godebug = none := by kernel_rfl
theorem cells36 : Try.prog.cellsOf 36 = 5 := by kernel_rfl
theorem cells3 : Try.prog.cellsOf 3 = 1 := by kernel_rfl
theorem cells4 : Try.prog.cellsOf 4 = 1 := by kernel_rfl
set_option linter.unusedSectionVars false
variable [Inhabited Cl] [Inhabited Ev]

set_option maxRecDepth 100000 in
theorem ev_of {H : Type} {enc : TypeId × Value → H} {W : World} {base : Nat} {sp : Nat → Bool} {held : Bool} {fuel : Nat} {cs : List Value} {x : DataW H × List MemPlace} (h : DataW.trod enc Try.prog W base sp held fuel 36 cs = some x) : ∃ e : Ev, cs = evL e := by
  obtain ⟨xs, n, _, _, hl, hlen, hfs⟩ := DataW.trod_struct Try.underlying36 h
  rw [cells36] at hl
  match xs, hlen, hfs with
  | [y0, y1, y2, y3, y4], _, hfs =>
    match cs, hl with
    | [c0, c1, c2, c3, c4], _ =>
      have g0 := hfs 0 _ rfl
      have g1 := hfs 1 _ rfl
      have g2 := hfs 2 _ rfl
      have g3 := hfs 3 _ rfl
      have g4 := hfs 4 _ rfl
      obtain ⟨k, e0, _⟩ := DataW.trod_int Try.underlying3 g0
      obtain ⟨a, e1, _⟩ := DataW.trod_string Try.underlying9 g1
      obtain ⟨b, e2, _⟩ := DataW.trod_string Try.underlying9 g2
      obtain ⟨c, e3, _⟩ := DataW.trod_string Try.underlying9 g3
      obtain ⟨x, e4, _⟩ := DataW.trod_string Try.underlying9 g4
      simp [cells3, cells9] at e0 e1 e2 e3 e4
      exact ⟨⟨k, a, b, c, x⟩, by rw [e0, e1, e2, e3, e4]; rfl⟩
/-- A list of events as the row reads it. -/
theorem evs_of {H : Type} {enc : TypeId × Value → H} {W : World} {ao : Option Addr} {len cap : Nat} {d : DataW H} {p : List MemPlace} (h : DataW.Trod enc Try.prog W 0 (fun _ => true) true 29 (.slice ao len cap) d p) : ∃ es, EvRow W (.slice ao len cap) es := by
  obtain ⟨fuel, hf⟩ := h
  rcases Go.Deep.open_slice Try.underlying29 hf with ⟨hcs, _⟩ | ⟨a, len', cap', m, n, D, Pl, hcs, _, hl, _, hm, _, hx⟩
  · simp [Value.cells] at hcs
    obtain ⟨rfl, rfl, rfl⟩ := hcs
    exact ⟨[], .inl ⟨⟨_, _, rfl⟩, rfl⟩⟩
  · simp [Value.cells] at hcs
    obtain ⟨rfl, rfl, rfl⟩ := hcs
    rw [cells36] at hx
    have hmc : m = cap := by simpa using hm
    have each : ∀ i, i < len → ∃ e : Ev, ∀ j u, (evL e)[j]? = some u → W.cell? (a.add (i * 5 + j)) = some u := fun i hi => by
      obtain ⟨cs, h1, h2⟩ := hx i (by omega)
      obtain ⟨e, rfl⟩ := ev_of h2
      obtain ⟨_, _, hc⟩ := World.cells?_some h1
      refine ⟨e, fun j u hu => ?_⟩
      have hj : j < 5 := (List.getElem?_eq_some_iff.1 hu).1
      have := hc j hj
      rw [Go.Deep.add_add] at this
      exact this.trans hu
    obtain ⟨f, hF⟩ := Go.Deep.choose_lt each
    by_cases h0 : len = 0
    · subst h0
      exact ⟨[], .inl ⟨⟨_, _, rfl⟩, rfl⟩⟩
    · obtain ⟨b, off, spot⟩ := a
      have z0 := hF 0 (by omega) 0 _ rfl
      have hspot : spot = none := by simpa [Addr.add] using World.cell?_spot z0
      subst hspot
      have hlen : ((List.range len).map f).length = len := by simp
      refine ⟨(List.range len).map f, .inr ⟨b, off, cap, by rw [hlen], by rw [hlen]; omega, ?_, fun k hk i u hu => ?_⟩⟩
      · rw [Addr.add_lit] at z0
        exact block_lt_of_cell z0
      · have hk' : k < len := by simpa using hk
        have hg : ((List.range len).map f)[k]! = f k := by
          rw [getElem!_pos _ k (by simpa using hk')]
          simp
        rw [hg] at hu
        have := hF k hk' i u hu
        rw [Addr.add_lit] at this
        rw [Nat.add_assoc]
        exact this
/-- A list of bools. -/
theorem bools_of {H : Type} {enc : TypeId × Value → H} {W : World} {ao : Option Addr} {len cap : Nat} {d : DataW H} {p : List MemPlace} (h : DataW.Trod enc Try.prog W 0 (fun _ => true) true 53 (.slice ao len cap) d p) : ∃ bs, BoolRow W (.slice ao len cap) bs := by
  obtain ⟨fuel, hf⟩ := h
  rcases Go.Deep.open_slice Try.underlying53 hf with ⟨hcs, _⟩ | ⟨a, len', cap', m, n, D, Pl, hcs, _, hl, _, hm, _, hx⟩
  · simp [Value.cells] at hcs
    obtain ⟨rfl, rfl, rfl⟩ := hcs
    exact ⟨[], .inl ⟨⟨_, _, rfl⟩, rfl⟩⟩
  · simp [Value.cells] at hcs
    obtain ⟨rfl, rfl, rfl⟩ := hcs
    rw [cells4] at hx
    have hmc : m = cap := by simpa using hm
    have each : ∀ i, i < len → ∃ q : Bool, W.cell? (a.add i) = some (.bool q) := fun i hi => by
      obtain ⟨cs, h1, h2⟩ := hx i (by omega)
      obtain ⟨q, rfl, _⟩ := DataW.trod_bool Try.underlying4 h2
      obtain ⟨_, _, hc⟩ := World.cells?_some h1
      have := hc 0 (by omega)
      rw [Go.Deep.add_add, Nat.mul_one, Nat.add_zero] at this
      exact ⟨q, this⟩
    obtain ⟨f, hF⟩ := Go.Deep.choose_lt each
    by_cases h0 : len = 0
    · subst h0
      exact ⟨[], .inl ⟨⟨_, _, rfl⟩, rfl⟩⟩
    · obtain ⟨b, off, spot⟩ := a
      have z0 := hF 0 (by omega)
      have hspot : spot = none := by simpa [Addr.add] using World.cell?_spot z0
      subst hspot
      have hlen : ((List.range len).map f).length = len := by simp
      refine ⟨(List.range len).map f, .inr ⟨b, off, cap, by rw [hlen], ?_, fun k hk => ?_⟩⟩
      · rw [Addr.add_lit] at z0
        exact block_lt_of_cell z0
      · have hk' : k < len := by simpa using hk
        have hg : ((List.range len).map f)[k]! = f k := by
          rw [getElem!_pos _ k (by simpa using hk')]
          simp
        rw [hg]
        have := hF k hk'
        rw [Addr.add_lit] at this
        exact this
end Go.Proofs.Ytpfihhilgeihoaa
