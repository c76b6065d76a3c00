/- What a call may turn in memory; a look-up in a map where what is there is known. -/
import Derived.Test.YtpfihhilgeihoaaBase
import Derived.Maps.RangeWalk
namespace Go.Proofs.Ytpfihhilgeihoaa
open Go.RowKit Go.Maps
/-- Of what was there nothing has turned but the blocks of a list. -/
structure Stirred (L : List Nat) (w w' : World) : Prop where
  os : w'.os = w.os
  tape : w'.tape = w.tape
  output : w'.output = w.output
  size : w.heap.size ≤ w'.heap.size
  block : ∀ k, k < w.heap.size → k ∉ L → w'.heap[k]? = w.heap[k]?
theorem Stirred.refl (L : List Nat) (w : World) : Stirred L w w := ⟨rfl, rfl, rfl, Nat.le_refl _, fun _ _ _ => rfl⟩
theorem Stirred.andThen {L M : List Nat} {a b c : World} (h : Stirred L a b) (k : Stirred M b c) (hM : ∀ j ∈ M, j ∈ L ∨ a.heap.size ≤ j) : Stirred L a c :=
  ⟨k.os.trans h.os, k.tape.trans h.tape, k.output.trans h.output, Nat.le_trans h.size k.size, fun i hi hn =>
    (k.block i (Nat.lt_of_lt_of_le hi h.size) (fun hm => by
      rcases hM i hm with h1 | h1
      · exact hn h1
      · omega)).trans (h.block i hi hn)⟩
theorem Stirred.mono {L M : List Nat} {a b : World} (h : Stirred L a b) (hM : ∀ j ∈ L, j ∈ M) : Stirred M a b :=
  ⟨h.os, h.tape, h.output, h.size, fun k hk hn => h.block k hk fun hl => hn (hM k hl)⟩
theorem Stirred.of_below {w w' : World} (h : Below w.heap.size w w') (L : List Nat) : Stirred L w w' := ⟨h.os, h.tape, h.output, h.size, fun k hk _ => h.block k hk⟩
theorem Stirred.of_grown {w w' : World} {b : Nat} (h : w.grownBy w' (some b)) : Stirred [b] w w' := ⟨h.os, h.tape, h.output, h.size, fun k hk hn => h.block k hk (fun e => hn (by cases e; simp))⟩
theorem Stirred.of_turned {w w' : World} {b : Nat} (h : w.mapTurned w' b) : Stirred [b] w w' := Stirred.of_grown h.grown
theorem Stirred.setCell (w : World) (a : Addr) (v : Value) : Stirred [a.block] w (w.setCell a v) := ⟨rfl, rfl, rfl, by simp [World.setCell], fun k _ hn => Below.heap_setCell _ _ _ _ (by simpa using hn)⟩
theorem Stirred.then_below {L : List Nat} {a b c : World} (h : Stirred L a b) (k : Below b.heap.size b c) : Stirred L a c := h.andThen (Stirred.of_below k []) (fun j hj => by simp at hj)
theorem Stirred.below {L : List Nat} {w w' : World} {B : Nat} (h : Stirred L w w') (hB : B ≤ w.heap.size) (hL : ∀ k ∈ L, B ≤ k) : Below B w w' :=
  ⟨h.os, h.tape, h.output, h.size, fun k hk => h.block k (by omega) (fun hm => by have := hL k hm; omega)⟩
theorem Stirred.cell {L : List Nat} {w w' : World} (h : Stirred L w w') {p : Addr} (hp : p.block < w.heap.size) (hn : p.block ∉ L) : w'.cell? p = w.cell? p := World.cell?_of_block (w := w) (h.block p.block hp hn)
theorem ownsMap_turned {P : Program} {k : TypeId} {R : Value → Option (DataW Unit × List MemPlace)} {w w' : World} {b n : Nat} {D : DataW Unit} {L : List Nat} (h : w.ownsMap P k R b n D) (t : Stirred L w w') (hb : b ∉ L) : w'.ownsMap P k R b n D := by
  have hlt := h.lt
  obtain ⟨es, clock, hh, r⟩ := h
  exact ⟨es, clock, (t.block b hlt hb).trans hh, r⟩
theorem HasR.turned {w w' : World} {b : Nat} {t : TypeId} {cs : Array Value} {L : List Nat} (h : HasR w b t cs) (k : Stirred L w w') (hb : b ∉ L) : HasR w' b t cs := by
  unfold HasR
  rw [k.block b h.lt hb]
  exact h
/-- A look-up in a map, at the operation, where what is there is known. -/
theorem lookup_at {P : Program} (w : World) {ops : Array Oper} {rest : List Oper} {o : Oper} {a : Act} {Q : Exit → Act → World → Prop}
    (hg : o.guard = none) (m x : Operand) (t : TypeId) (hop : o.op = Op.lookup t m x false)
    (k e : TypeId) (K : Keyed P k) (ht : P.underlying t = some (.map k e)) (R : Value → Option (DataW Unit × List MemPlace)) {z : Value} (hz : (zeroValue e).run P w = .ok z w) (zd : DataW Unit) (zp : List MemPlace) (hzd : R z = some (zd, zp)) (b n : Nat) (D : DataW Unit)
    (hm : a.eval m = .map (some b)) (hown : w.ownsMap P k R b n D) (key : Value) (kl : Lit) (hx : a.eval x = key) (hkey : keyOf P k key = some kl)
    (v : Value) (hv : ∀ u ps, R u = some (D.atKey kl zd, ps) → u = v) (hK : wpList P ops Q rest (a.put o.dst v) w) :
    wpList P ops Q (o :: rest) a w := by
  refine wpList_plain hg fun K' hK' => ?_
  obtain ⟨u, ps, hrun, hu⟩ := hown.lookup K ht hz hzd hkey
  obtain rfl := hv u ps hu
  unfold Oper.wp
  simp [execOp, hop, hm, hx, hrun, Result.andThen]
  exact hK' _ _ hK
end Go.Proofs.Ytpfihhilgeihoaa
