/- Texts of this proof, one behind the other. -/
import Derived.ProofKit
import Derived.OpenShut
import Derived.Stop.Joined
import Derived.Deep.Strs
import Derived.Test.YtedcbjefkhgiiabGreatDoorPart31
/- Whatever happens, which rows there are is the document's: at every argument. -/
namespace Go.Proofs.YtedcbjefkhgiiabGreatDoor
open Go.RowKit Go.Sort
attribute [local go_sem ↓] Go.wp_at_zero Go.wp_at_succ
set_option linter.unusedSectionVars false
variable [Inhabited Cl] [Inhabited Ev]
set_option maxHeartbeats 1000000 in
set_option maxRecDepth 100000 in
theorem applies_any (v : Value) (es : List Ev) (name row : ByteArray) (W : World) (hE : TabE W) (hv : EvRow W v es) :
    Calls Tryz.prog 3 #[v, .string name, .string row] W fun x w' => x = .returned (.bool true) ∧ Below W.heap.size W w' := by
  by_cases h40 : es.length ≤ 40
  · by_cases hn : name.size ≤ 60
    · by_cases hr : row.size ≤ 60
      · exact applies_some v es name row W hE hv h40 hn hr
      · obtain ⟨ao, cap, rfl⟩ := hv.slice
        have LA := hide (fun wx => longE_any name wx)
        have LB := hide (fun wx => longE_any row wx)
        rw [decide_eq_false (by omega)] at LA
        rw [decide_eq_true (by omega)] at LB
        have h40z : ¬ (40 : Int) < (es.length : Int) := by omega
        clear hv
        go_enter Tryz.func3, Tryz.ntmps3
        go_wp2_with (first
          | (go_at_call 9; (with_reducible refine (LA.out _).mono ?_); rintro e w1 ⟨rfl, hw1⟩; obtain rfl := hw1.symm)
          | (go_at_call 9; (with_reducible refine (LB.out _).mono ?_); rintro e w1 ⟨rfl, hw1⟩; obtain rfl := hw1.symm))
        go_ret
        exact ⟨rfl, Below.refl _ _⟩
    · obtain ⟨ao, cap, rfl⟩ := hv.slice
      have LA := hide (fun wx => longE_any name wx)
      rw [decide_eq_true (by omega)] at LA
      have h40z : ¬ (40 : Int) < (es.length : Int) := by omega
      clear hv
      go_enter Tryz.func3, Tryz.ntmps3
      go_wp2_with (go_at_call 9; (with_reducible refine (LA.out _).mono ?_); rintro e w1 ⟨rfl, hw1⟩; obtain rfl := hw1.symm)
      go_ret
      exact ⟨rfl, Below.refl _ _⟩
  · obtain ⟨ao, cap, rfl⟩ := hv.slice
    have h40z : (40 : Int) < (es.length : Int) := by omega
    clear hv
    go_enter Tryz.func3, Tryz.ntmps3
    go_wp2
    go_ret
    exact ⟨rfl, Below.refl _ _⟩
end Go.Proofs.YtedcbjefkhgiiabGreatDoor

/- Lists of events as a row's condition reads them. -/
namespace Go.Proofs.YtedcbjefkhgiiabGreatDoor
open Go.ChangeShapes Go.WideShapes Go.ChangeAt Go.RowKit
theorem own : ownKnob Tryz.prog.godebug = none := by kernel_rfl
theorem cells36 : Tryz.prog.cellsOf 33 = 5 := by kernel_rfl
theorem cells3 : Tryz.prog.cellsOf 3 = 1 := by kernel_rfl
theorem cells4 : Tryz.prog.cellsOf 4 = 1 := by kernel_rfl
set_option linter.unusedSectionVars false
variable [Inhabited Cl] [Inhabited Ev]

set_option maxRecDepth 100000 in
theorem ev_of {H : Type} {enc : TypeId × Value → H} {W : World} {base : Nat} {sp : Nat → Bool} {held : Bool} {fuel : Nat} {cs : List Value} {x : DataW H × List MemPlace} (h : DataW.trod enc Tryz.prog W base sp held fuel 33 cs = some x) : ∃ e : Ev, cs = evL e := by
  obtain ⟨xs, n, _, _, hl, hlen, hfs⟩ := DataW.trod_struct Tryz.underlying33 h
  rw [cells36] at hl
  match xs, hlen, hfs with
  | [y0, y1, y2, y3, y4], _, hfs =>
    match cs, hl with
    | [c0, c1, c2, c3, c4], _ =>
      have g0 := hfs 0 _ rfl
      have g1 := hfs 1 _ rfl
      have g2 := hfs 2 _ rfl
      have g3 := hfs 3 _ rfl
      have g4 := hfs 4 _ rfl
      obtain ⟨k, e0, _⟩ := DataW.trod_int Tryz.underlying3 g0
      obtain ⟨a, e1, _⟩ := DataW.trod_string Tryz.underlying9 g1
      obtain ⟨b, e2, _⟩ := DataW.trod_string Tryz.underlying9 g2
      obtain ⟨c, e3, _⟩ := DataW.trod_string Tryz.underlying9 g3
      obtain ⟨x, e4, _⟩ := DataW.trod_string Tryz.underlying9 g4
      simp [cells3, cells9] at e0 e1 e2 e3 e4
      exact ⟨⟨k, a, b, c, x⟩, by rw [e0, e1, e2, e3, e4]; rfl⟩
/-- A list of events as the row reads it. -/
theorem evs_of {H : Type} {enc : TypeId × Value → H} {W : World} {ao : Option Addr} {len cap : Nat} {d : DataW H} {p : List MemPlace} (h : DataW.Trod enc Tryz.prog W 0 (fun _ => true) true 22 (.slice ao len cap) d p) : ∃ es, EvRow W (.slice ao len cap) es := by
  obtain ⟨fuel, hf⟩ := h
  rcases Go.Deep.open_slice Tryz.underlying22 hf with ⟨hcs, _⟩ | ⟨a, len', cap', m, n, D, Pl, hcs, _, hl, _, hm, _, hx⟩
  · simp [Value.cells] at hcs
    obtain ⟨rfl, rfl, rfl⟩ := hcs
    exact ⟨[], .inl ⟨⟨_, _, rfl⟩, rfl⟩⟩
  · simp [Value.cells] at hcs
    obtain ⟨rfl, rfl, rfl⟩ := hcs
    rw [cells36] at hx
    have hmc : m = cap := by simpa using hm
    have each : ∀ i, i < len → ∃ e : Ev, ∀ j u, (evL e)[j]? = some u → W.cell? (a.add (i * 5 + j)) = some u := fun i hi => by
      obtain ⟨cs, h1, h2⟩ := hx i (by omega)
      obtain ⟨e, rfl⟩ := ev_of h2
      obtain ⟨_, _, hc⟩ := World.cells?_some h1
      refine ⟨e, fun j u hu => ?_⟩
      have hj : j < 5 := (List.getElem?_eq_some_iff.1 hu).1
      have := hc j hj
      rw [Go.Deep.add_add] at this
      exact this.trans hu
    obtain ⟨f, hF⟩ := Go.Deep.choose_lt each
    by_cases h0 : len = 0
    · subst h0
      exact ⟨[], .inl ⟨⟨_, _, rfl⟩, rfl⟩⟩
    · obtain ⟨b, off, spot⟩ := a
      have z0 := hF 0 (by omega) 0 _ rfl
      have hspot : spot = none := by simpa [Addr.add] using World.cell?_spot z0
      subst hspot
      have hlen : ((List.range len).map f).length = len := by simp
      refine ⟨(List.range len).map f, .inr ⟨b, off, cap, by rw [hlen], by rw [hlen]; omega, ?_, fun k hk i u hu => ?_⟩⟩
      · rw [Addr.add_lit] at z0
        exact block_lt_of_cell z0
      · have hk' : k < len := by simpa using hk
        have hg : ((List.range len).map f)[k]! = f k := by
          rw [getElem!_pos _ k (by simpa using hk')]
          simp
        rw [hg] at hu
        have := hF k hk' i u hu
        rw [Addr.add_lit] at this
        rw [Nat.add_assoc]
        exact this
end Go.Proofs.YtedcbjefkhgiiabGreatDoor
