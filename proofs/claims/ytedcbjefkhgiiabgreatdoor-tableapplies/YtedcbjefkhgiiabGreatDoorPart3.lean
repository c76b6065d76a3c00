/- Texts of this proof, one behind the other. -/
import Derived.Test.YtedcbjefkhgiiabGreatDoorRows
import Derived.Maps.RangeWalk
import Derived.Test.YtedcbjefkhgiiabGreatDoorPart2
/- What the texts of the sums and of the stream share. -/
namespace Go.Proofs.YtedcbjefkhgiiabGreatDoor
open Go Go.RowKit
theorem ret_val {a b : Value} (h : a = b) : Ending.returned a = .returned b := by rw [h]

/-- A byte as a word. -/
def bw (c : UInt8) : BitVec 32 := BitVec.ofNat 32 c.toNat
theorem N_byte (c : UInt8) : ((c.toNat : Nat) : Int) % 4294967296 = N (bw c) := by
  have := c.toNat_lt
  unfold bw; rw [N_ofNat _ (by omega)]; omega
theorem N_shl24 (x : BitVec 32) : N x * (16777216 : Int) % (4294967296 : Int) = N (x <<< 24) := N_shlm x 24
theorem N_shl16 (x : BitVec 32) : N x * (65536 : Int) % (4294967296 : Int) = N (x <<< 16) := N_shlm x 16
theorem N_shl8 (x : BitVec 32) : N x * (256 : Int) % (4294967296 : Int) = N (x <<< 8) := N_shlm x 8
theorem bw_nat (c : UInt8) : (bw c).toNat = c.toNat := by
  have := c.toNat_lt
  unfold bw; rw [BitVec.toNat_ofNat]; omega
theorem nat4 (a b c d : Nat) (hb : b < 256) (hc : c < 256) (hd : d < 256) : a * 16777216 ||| b * 65536 ||| c * 256 ||| d = a * 16777216 + b * 65536 + c * 256 + d := by
  have e1 : a * 16777216 ||| b * 65536 = (a * 256 + b) <<< 16 := by
    have h := Nat.shiftLeft_add_eq_or_of_lt (a := a) (b := b) (i := 8) hb
    have h2 : (a <<< 8 ||| b) <<< 16 = a <<< 8 <<< 16 ||| b <<< 16 := Nat.shiftLeft_or_distrib
    rw [← h] at h2
    rw [Nat.shiftLeft_eq a 8, ← Nat.shiftLeft_eq a 8, ← Nat.shiftLeft_add] at h2
    rw [Nat.shiftLeft_eq a 24, Nat.shiftLeft_eq b 16, Nat.shiftLeft_eq a 8] at h2
    exact h2.symm
  have e2 : (a * 256 + b) <<< 16 ||| c * 256 = ((a * 256 + b) * 256 + c) <<< 8 := by
    have h := Nat.shiftLeft_add_eq_or_of_lt (a := a * 256 + b) (b := c) (i := 8) hc
    have h2 : ((a * 256 + b) <<< 8 ||| c) <<< 8 = (a * 256 + b) <<< 8 <<< 8 ||| c <<< 8 := Nat.shiftLeft_or_distrib
    rw [← h, ← Nat.shiftLeft_add, Nat.shiftLeft_eq (a * 256 + b) 8, Nat.shiftLeft_eq c 8] at h2
    exact h2.symm
  rw [e1, e2, ← Nat.shiftLeft_add_eq_or_of_lt (i := 8) hd, Nat.shiftLeft_eq]
  show ((a * 256 + b) * 256 + c) * 256 + d = _
  omega
theorem ext_at (s : ByteArray) (a b i : Nat) (h : i < (s.extract a b).size) : (s.extract a b)[i] = s.data.toList.getD (a + i) 0 := by
  have h2 : a + i < s.size := by rw [ByteArray.size_extract] at h; omega
  have h3 : a + i < s.data.size := h2
  rw [ByteArray.getElem_extract]
  show s.data[a + i] = _
  rw [List.getD_eq_getElem?_getD, Array.getElem?_toList, Array.getElem?_eq_getElem h3]; rfl
theorem br_one (w : World) (u : Nat) : BR (w.alloc (.cells #[.int .u8 ((u : Int) % 256)] 5)) w.heap.size 5 w.heap.size 1 1 (bytesV [UInt8.ofNat u]) :=
  ⟨rfl, Nat.le_refl _, Nat.le_refl _, _, _, heap_alloc_new w _, rfl, by simp [bytesV], .inl (Nat.le_refl _)⟩
theorem one_u8 (n : Int) : ∀ u ∈ [Value.int .u8 n], u.oneCell' = true := by
  intro u hu; simp at hu; subst hu; rfl
theorem bytes_app (a b : Array UInt8) : (⟨a⟩ : ByteArray) ++ ⟨b⟩ = ⟨a ++ b⟩ := by
  apply ByteArray.ext
  rw [ByteArray.data_append]
theorem byte_at (s : ByteArray) (k : Nat) (h : k < s.size) (w : World) : (Instr.index 9 (.string s) (.int .i64 (k : Int))).run Tryz.prog w = .ok (.int .u8 ((s[k].toNat : Nat) : Int)) w := by
  rw [run_index_string w 9 s .i64 k Tryz.underlying9]
  simp [h]
theorem byte_get (s : ByteArray) (k : Nat) (h : k < s.size) (w : World) : (Instr.index 9 (.string s) (.int .i64 (k : Int))).run Tryz.prog w = .ok (.int .u8 (((s.data.toList.getD k 0).toNat : Nat) : Int)) w := by
  rw [run_index_string w 9 s .i64 k Tryz.underlying9]
  have h2 : k < s.data.size := h
  have e : s[k] = s.data.toList.getD k 0 := by
    rw [List.getD_eq_getElem?_getD, Array.getElem?_toList, Array.getElem?_eq_getElem h2]; rfl
  simp [h, e]
end Go.Proofs.YtedcbjefkhgiiabGreatDoor

/- What a call may turn in memory; a look-up in a map where what is there is known. -/
namespace Go.Proofs.YtedcbjefkhgiiabGreatDoor
open Go.RowKit Go.Maps
/-- Of what was there nothing has turned but the blocks of a list. -/
structure Stirred (L : List Nat) (w w' : World) : Prop where
  os : w'.os = w.os
  tape : w'.tape = w.tape
  output : w'.output = w.output
  size : w.heap.size ≤ w'.heap.size
  block : ∀ k, k < w.heap.size → k ∉ L → w'.heap[k]? = w.heap[k]?
theorem Stirred.refl (L : List Nat) (w : World) : Stirred L w w := ⟨rfl, rfl, rfl, Nat.le_refl _, fun _ _ _ => rfl⟩
theorem Stirred.andThen {L M : List Nat} {a b c : World} (h : Stirred L a b) (k : Stirred M b c) (hM : ∀ j ∈ M, j ∈ L ∨ a.heap.size ≤ j) : Stirred L a c :=
  ⟨k.os.trans h.os, k.tape.trans h.tape, k.output.trans h.output, Nat.le_trans h.size k.size, fun i hi hn =>
    (k.block i (Nat.lt_of_lt_of_le hi h.size) (fun hm => by
      rcases hM i hm with h1 | h1
      · exact hn h1
      · omega)).trans (h.block i hi hn)⟩
theorem Stirred.mono {L M : List Nat} {a b : World} (h : Stirred L a b) (hM : ∀ j ∈ L, j ∈ M) : Stirred M a b :=
  ⟨h.os, h.tape, h.output, h.size, fun k hk hn => h.block k hk fun hl => hn (hM k hl)⟩
theorem Stirred.of_below {w w' : World} (h : Below w.heap.size w w') (L : List Nat) : Stirred L w w' := ⟨h.os, h.tape, h.output, h.size, fun k hk _ => h.block k hk⟩
theorem Stirred.of_grown {w w' : World} {b : Nat} (h : w.grownBy w' (some b)) : Stirred [b] w w' := ⟨h.os, h.tape, h.output, h.size, fun k hk hn => h.block k hk (fun e => hn (by cases e; simp))⟩
theorem Stirred.of_turned {w w' : World} {b : Nat} (h : w.mapTurned w' b) : Stirred [b] w w' := Stirred.of_grown h.grown
theorem Stirred.setCell (w : World) (a : Addr) (v : Value) : Stirred [a.block] w (w.setCell a v) := ⟨rfl, rfl, rfl, by simp [World.setCell], fun k _ hn => Below.heap_setCell _ _ _ _ (by simpa using hn)⟩
theorem Stirred.then_below {L : List Nat} {a b c : World} (h : Stirred L a b) (k : Below b.heap.size b c) : Stirred L a c := h.andThen (Stirred.of_below k []) (fun j hj => by simp at hj)
theorem Stirred.below {L : List Nat} {w w' : World} {B : Nat} (h : Stirred L w w') (hB : B ≤ w.heap.size) (hL : ∀ k ∈ L, B ≤ k) : Below B w w' :=
  ⟨h.os, h.tape, h.output, h.size, fun k hk => h.block k (by omega) (fun hm => by have := hL k hm; omega)⟩
theorem Stirred.cell {L : List Nat} {w w' : World} (h : Stirred L w w') {p : Addr} (hp : p.block < w.heap.size) (hn : p.block ∉ L) : w'.cell? p = w.cell? p := World.cell?_of_block (w := w) (h.block p.block hp hn)
theorem ownsMap_turned {P : Program} {k : TypeId} {R : Value → Option (DataW Unit × List MemPlace)} {w w' : World} {b n : Nat} {D : DataW Unit} {L : List Nat} (h : w.ownsMap P k R b n D) (t : Stirred L w w') (hb : b ∉ L) : w'.ownsMap P k R b n D := by
  have hlt := h.lt
  obtain ⟨es, clock, hh, r⟩ := h
  exact ⟨es, clock, (t.block b hlt hb).trans hh, r⟩
theorem HasR.turned {w w' : World} {b : Nat} {t : TypeId} {cs : Array Value} {L : List Nat} (h : HasR w b t cs) (k : Stirred L w w') (hb : b ∉ L) : HasR w' b t cs := by
  unfold HasR
  rw [k.block b h.lt hb]
  exact h
/-- A look-up in a map, at the operation, where what is there is known. -/
theorem lookup_at {P : Program} (w : World) {ops : Array Oper} {rest : List Oper} {o : Oper} {a : Act} {Q : Exit → Act → World → Prop}
    (hg : o.guard = none) (m x : Operand) (t : TypeId) (hop : o.op = Op.lookup t m x false)
    (k e : TypeId) (K : Keyed P k) (ht : P.underlying t = some (.map k e)) (R : Value → Option (DataW Unit × List MemPlace)) {z : Value} (hz : (zeroValue e).run P w = .ok z w) (zd : DataW Unit) (zp : List MemPlace) (hzd : R z = some (zd, zp)) (b n : Nat) (D : DataW Unit)
    (hm : a.eval m = .map (some b)) (hown : w.ownsMap P k R b n D) (key : Value) (kl : Lit) (hx : a.eval x = key) (hkey : keyOf P k key = some kl)
    (v : Value) (hv : ∀ u ps, R u = some (D.atKey kl zd, ps) → u = v) (hK : wpList P ops Q rest (a.put o.dst v) w) :
    wpList P ops Q (o :: rest) a w := by
  refine wpList_plain hg fun K' hK' => ?_
  obtain ⟨u, ps, hrun, hu⟩ := hown.lookup K ht hz hzd hkey
  obtain rfl := hv u ps hu
  unfold Oper.wp
  simp [execOp, hop, hm, hx, hrun, Result.andThen]
  exact hK' _ _ hK
end Go.Proofs.YtedcbjefkhgiiabGreatDoor
