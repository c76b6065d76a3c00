/- What a call may turn in memory; and two vaults as they lie there: the document's and the program's. -/
import Derived.Test.YtdoakaadpfheaaaDoorKept
import Derived.Test.YtdoakaadpfheaaaDoorMarks
import Derived.Test.YtdoakaadpfheaaaDoorLook
namespace Go.Proofs.YtdoakaadpfheaaaDoor
open Go.RowKit Go.Maps
/-- Of what was there nothing has turned but the blocks of a list. -/
structure Stirred (L : List Nat) (w w' : World) : Prop where
  os : w'.os = w.os
  tape : w'.tape = w.tape
  output : w'.output = w.output
  size : w.heap.size ≤ w'.heap.size
  block : ∀ k, k < w.heap.size → k ∉ L → w'.heap[k]? = w.heap[k]?
theorem Stirred.refl (L : List Nat) (w : World) : Stirred L w w := ⟨rfl, rfl, rfl, Nat.le_refl _, fun _ _ _ => rfl⟩
theorem Stirred.andThen {L M : List Nat} {a b c : World} (h : Stirred L a b) (k : Stirred M b c) (hM : ∀ j ∈ M, j ∈ L ∨ a.heap.size ≤ j) : Stirred L a c :=
  ⟨k.os.trans h.os, k.tape.trans h.tape, k.output.trans h.output, Nat.le_trans h.size k.size, fun i hi hn =>
    (k.block i (Nat.lt_of_lt_of_le hi h.size) (fun hm => by
      rcases hM i hm with h1 | h1
      · exact hn h1
      · omega)).trans (h.block i hi hn)⟩
theorem Stirred.mono {L M : List Nat} {a b : World} (h : Stirred L a b) (hM : ∀ j ∈ L, j ∈ M) : Stirred M a b :=
  ⟨h.os, h.tape, h.output, h.size, fun k hk hn => h.block k hk fun hl => hn (hM k hl)⟩
theorem Stirred.of_below {w w' : World} (h : Below w.heap.size w w') (L : List Nat) : Stirred L w w' := ⟨h.os, h.tape, h.output, h.size, fun k hk _ => h.block k hk⟩
theorem Stirred.of_grown {w w' : World} {b : Nat} (h : w.grownBy w' (some b)) : Stirred [b] w w' := ⟨h.os, h.tape, h.output, h.size, fun k hk hn => h.block k hk (fun e => hn (by cases e; simp))⟩
theorem Stirred.of_turned {w w' : World} {b : Nat} (h : w.mapTurned w' b) : Stirred [b] w w' := Stirred.of_grown h.grown
theorem Stirred.setCell (w : World) (a : Addr) (v : Value) : Stirred [a.block] w (w.setCell a v) := ⟨rfl, rfl, rfl, by simp [World.setCell], fun k _ hn => Below.heap_setCell _ _ _ _ (by simpa using hn)⟩
theorem Stirred.then_below {L : List Nat} {a b c : World} (h : Stirred L a b) (k : Below b.heap.size b c) : Stirred L a c := h.andThen (Stirred.of_below k []) (fun j hj => by simp at hj)
theorem Stirred.below {L : List Nat} {w w' : World} {B : Nat} (h : Stirred L w w') (hB : B ≤ w.heap.size) (hL : ∀ k ∈ L, B ≤ k) : Below B w w' :=
  ⟨h.os, h.tape, h.output, h.size, fun k hk => h.block k (by omega) (fun hm => by have := hL k hm; omega)⟩
theorem Stirred.cell {L : List Nat} {w w' : World} (h : Stirred L w w') {p : Addr} (hp : p.block < w.heap.size) (hn : p.block ∉ L) : w'.cell? p = w.cell? p := World.cell?_of_block (w := w) (h.block p.block hp hn)
theorem ownsMap_turned {P : Program} {k : TypeId} {R : Value → Option (DataW Unit × List MemPlace)} {w w' : World} {b n : Nat} {D : DataW Unit} {L : List Nat} (h : w.ownsMap P k R b n D) (t : Stirred L w w') (hb : b ∉ L) : w'.ownsMap P k R b n D := by
  have hlt := h.lt
  obtain ⟨es, clock, hh, r⟩ := h
  exact ⟨es, clock, (t.block b hlt hb).trans hh, r⟩
theorem HasR.turned {w w' : World} {b : Nat} {t : TypeId} {cs : Array Value} {L : List Nat} (h : HasR w b t cs) (k : Stirred L w w') (hb : b ∉ L) : HasR w' b t cs := by
  unfold HasR
  rw [k.block b h.lt hb]
  exact h
theorem RefR.turned {w w' : World} {b : Nat} {L : List Nat} (h : RefR w b) (t : Stirred L w w') (hb : b ∉ L) : RefR w' b :=
  ⟨fun i hi => (t.cell (p := ⟨b, i, none⟩) h.lt hb).trans (h.1 i hi), fun i hi => (t.cell (p := ⟨b, 8 + i, none⟩) h.lt hb).trans (h.2 i hi)⟩
theorem TabK.turned {w w' : World} {L : List Nat} (h : TabK w) (t : Stirred L w w') (hL : ∀ k ∈ L, 1 < k) : TabK w' := fun i hi =>
  (t.cell (p := ⟨1, i, none⟩) h.lt (fun hm => by have h1 : 1 < 1 := hL _ hm; omega)).trans (h i hi)
theorem TabE.turned {w w' : World} {L : List Nat} (h : TabE w) (t : Stirred L w w') (hL : ∀ k ∈ L, 1 < k) : TabE w' := by
  unfold TabE
  rw [t.cell (p := ⟨0, 0, none⟩) h.lt (fun hm => by have h1 : 1 < 0 := hL _ hm; omega)]
  exact h
/-- A subject's key of a number. -/
def keyB (sec s : ByteArray) (n : Nat) : ByteArray := ⟨(sha (markB 118 [sec, s, ⟨(num8 n).toArray⟩]).data.toList).toArray⟩
def keyL (sec : ByteArray) (l : List UInt8) (n : Nat) : List UInt8 := (keyB sec ⟨l.toArray⟩ n).data.toList
theorem keyB_size (sec s : ByteArray) (n : Nat) : (keyB sec s n).size = 32 := by
  show (sha (markB 118 [sec, s, ⟨(num8 n).toArray⟩]).data.toList).length = 32
  unfold sha stBytes
  rfl
theorem keyL_ne (sec : ByteArray) (l : List UInt8) (n : Nat) : keyL sec l n ≠ [] := by
  intro h
  have h1 : (keyL sec l n).length = 32 := by
    have := keyB_size sec ⟨l.toArray⟩ n
    unfold keyL
    rw [Array.length_toList]
    exact this
  rw [h] at h1
  simp at h1
theorem bytes_back (s : ByteArray) : (⟨s.data.toList.toArray⟩ : ByteArray) = s := by
  apply ByteArray.ext
  simp
/-- The last key, if it is there; else nothing. -/
def lastB (sec : ByteArray) (σ : Kept) (s : ByteArray) : ByteArray := if (σ s.data.toList).2 then keyB sec s (σ s.data.toList).1 else ByteArray.empty
theorem lastB_is (sec : ByteArray) (σ : Kept) (s : ByteArray) : (⟨(keyOr (keyL sec) σ s.data.toList).toArray⟩ : ByteArray) = lastB sec σ s := by
  unfold keyOr lastB keyL
  split
  · rw [bytes_back s, bytes_back]
  · rfl
theorem lastB_none {sec : ByteArray} {σ : Kept} {s : ByteArray} (h : (σ s.data.toList).2 = false) : lastB sec σ s = ByteArray.empty := by unfold lastB; rw [h]; rfl
theorem lastB_held {sec : ByteArray} {σ : Kept} {s : ByteArray} (h : (σ s.data.toList).2 = true) : lastB sec σ s = keyB sec s (σ s.data.toList).1 := by unfold lastB; rw [h]; rfl
theorem law9 : Keyed Tryd.prog 9 := string_keyed Tryd.underlying9
theorem key9 (s : ByteArray) (h : s.size ≤ 60) : keyOf Tryd.prog 9 (.string s) = some (.string s.data.toList) := WideMaps.keyOf_string_mk Tryd.underlying9 (by unfold maxLen; omega)
theorem zero3 (w : World) : (zeroValue 3).run Tryd.prog w = .ok (.int .i64 0) w := by kernel_rfl
theorem zero4 (w : World) : (zeroValue 4).run Tryd.prog w = .ok (.bool false) w := by kernel_rfl
theorem zero107 (w : World) : (zeroValue 107).run Tryd.prog w = .ok (.agg #[.int .i64 0, .string ByteArray.empty]) w := by kernel_rfl
/-- The document's vault. -/
structure RefV (w : World) (c b bh bs : Nat) (sec : ByteArray) (n : Nat) (σ : Kept) : Prop where
  row : HasR w b 102 #[.pointer (some ⟨c, 0, none⟩), .string sec, .map (some bh), .map (some bs)]
  had : ∃ D, w.ownsMap Tryd.prog 9 (plainElem Tryd.prog 3) bh n D ∧ HadIs D σ
  has : ∃ D, w.ownsMap Tryd.prog 9 (plainElem Tryd.prog 4) bs n D ∧ HasIs D σ
  ref : RefR w c
  two : bh ≠ bs
theorem RefV.turned {w w' : World} {c b bh bs : Nat} {sec : ByteArray} {n : Nat} {σ : Kept} {L : List Nat} (h : RefV w c b bh bs sec n σ) (t : Stirred L w w') (hL : ∀ k ∈ L, k ∉ [c, b, bh, bs]) : RefV w' c b bh bs sec n σ := by
  obtain ⟨D1, o1, i1⟩ := h.had
  obtain ⟨D2, o2, i2⟩ := h.has
  exact ⟨h.row.turned t (fun hm => by have := hL _ hm; simp at this), ⟨D1, ownsMap_turned o1 t (fun hm => by have := hL _ hm; simp at this), i1⟩,
    ⟨D2, ownsMap_turned o2 t (fun hm => by have := hL _ hm; simp at this), i2⟩, h.ref.turned t (fun hm => by have := hL _ hm; simp at this), h.two⟩
theorem RefV.below {w w' : World} {c b bh bs : Nat} {sec : ByteArray} {n : Nat} {σ : Kept} (h : RefV w c b bh bs sec n σ) (k : Below w.heap.size w w') : RefV w' c b bh bs sec n σ := h.turned (Stirred.of_below k []) (fun j hj => by simp at hj)
/-- The program's vault. -/
structure ProgV (w : World) (b : Nat) (mo : Option Nat) (sec : ByteArray) (n : Nat) (σ : Kept) : Prop where
  row : HasR w b 105 #[.string sec, .map mo]
  none : mo = none → σ = kept0
  held : ∀ m, mo = some m → ∃ D, w.ownsMap Tryd.prog 9 holdElem m n D ∧ HeldIs (keyL sec) D σ
theorem ProgV.turned {w w' : World} {b : Nat} {mo : Option Nat} {sec : ByteArray} {n : Nat} {σ : Kept} {L : List Nat} (h : ProgV w b mo sec n σ) (t : Stirred L w w') (hb : b ∉ L) (hm : ∀ m, mo = some m → m ∉ L) : ProgV w' b mo sec n σ :=
  ⟨h.row.turned t hb, h.none, fun m e => by obtain ⟨D, o, i⟩ := h.held m e; exact ⟨D, ownsMap_turned o t (hm m e), i⟩⟩
theorem ProgV.below {w w' : World} {b : Nat} {mo : Option Nat} {sec : ByteArray} {n : Nat} {σ : Kept} (h : ProgV w b mo sec n σ) (k : Below w.heap.size w w') : ProgV w' b mo sec n σ := h.turned (Stirred.of_below k []) (by simp) (by simp)
theorem ProgV.apart {w : World} {b m : Nat} {mo : Option Nat} {sec : ByteArray} {n : Nat} {σ : Kept} (h : ProgV w b mo sec n σ) (e : mo = some m) : m ≠ b := by
  obtain ⟨D, ⟨es, clock, hh, _⟩, _⟩ := h.held m e
  intro e1
  have h1 := h.row
  unfold HasR at h1
  rw [e1, h1] at hh
  cases hh
end Go.Proofs.YtdoakaadpfheaaaDoor
