/- Texts of this proof, one behind the other. -/
import Derived.Lib.AppendStr
import Derived.Test.YtdjpghgnjcmdnaaGreatDoorPart5
/- A text appended to bytes: the law for the program's own rows. -/
namespace Go.Proofs.YtdjpghgnjcmdnaaGreatDoor
open Go Go.RowKit

theorem strCells_bytesV (s : ByteArray) : Lib.strCells s = bytesV s.data.toList := rfl
theorem append_str {ops : Array Oper} {rest : List Oper} {a : Act} {w : World} {Q : Exit → Act → World → Prop} {tt : TypeId} {pos : String} {af : Array Edge} {sl x : Operand} {d : Tmp}
    {i : TypeInfo} (hE : Elem Tryz.prog 38 5 i (.int .u8 0) 1) (base g n cap : Nat) (l : List UInt8) (s : ByteArray)
    (hs : a.eval sl = .slice (some ⟨g, 0, none⟩) n cap) (hx : a.eval x = .string s) (hr : BR w base 5 g n cap (bytesV l))
    (hlen : n + s.size ≤ 1000000) (hbase : base ≤ w.heap.size)
    (h : ∀ g' cap' w', BR w' base 5 g' (n + s.size) cap' (bytesV (l ++ s.data.toList)) → Below base w w' → wpList Tryz.prog ops Q rest (a.put (some d) (.slice (some ⟨g', 0, none⟩) (n + s.size) cap')) w') :
    wpList Tryz.prog ops Q (⟨some d, .call { callee := .builtin .append, args := #[sl, x], argTypes := #[38, 9] }, tt, pos, af, none⟩ :: rest) a w := by
  refine wpList_plain rfl fun K hK => ?_
  obtain ⟨cur, fr, hgb, hsz, htk, hfr⟩ := hr.blk
  have hle := hr.le
  have hln := hr.len
  have hsl : (Lib.strCells s).length = s.size := Lib.strCells_length s
  unfold Oper.wp execOp
  by_cases hroom : n + s.size ≤ cap
  · have hrun : (Builtin.append_ #[38, 9] tt #[.slice (some ⟨g, 0, none⟩) n cap, .string s]).run Tryz.prog w = .ok (.slice (some ⟨g, 0, none⟩) (n + s.size) cap) (w.setCells g n (Lib.strCells s)) := by
      have hf := Lib.run_firstCells_string (P := Tryz.prog) w 1 s
      have hst := run_storeCells_cells (P := Tryz.prog) g n (Lib.strCells s) 0 w (fun j hj => by
          rw [Nat.add_zero, cell_of_row w g _ cur 5 fr hgb, Array.getElem?_eq_getElem (by omega)]; rfl) (fun j hj => by
          rw [hsl] at hj
          unfold World.frozen?
          simp only [hgb]
          rcases hfr with h5 | h5
          · simp; omega
          · simp; omega) (Lib.strCells_oneCell s)
      simp only [Nat.add_zero] at hst
      simp [Builtin.append_, run_underlying Tryz.underlying38, run_underlying Tryz.underlying9, sizeOf, typeInfo, hE.hi, hE.hs, Builtin.lenOf, hroom, hf, Addr.add_lit, hst]
    simp only [resolve, invoke, builtin, Sem.run_bind, Sem.run_pure, Result.andThen_ok, List.map_toArray, List.map_cons, List.map_nil, hs, hx, hrun]
    refine hK _ _ (h g cap _ ⟨by rw [bytesV_app, List.length_append, hln, ← strCells_bytesV, hsl], hr.base, hroom, ?_⟩ (below_setCells _ n w w g base (Below.refl _ _) hr.base))
    refine ⟨_, fr, heap_setCells_fr (Lib.strCells s) n w g 5 cur fr hgb (by omega), ?_, ?_, hfr⟩
    · simp; omega
    · have hl2 : (cur.toList.take n ++ Lib.strCells s).length = n + s.size := by simp; omega
      show (cur.toList.take n ++ Lib.strCells s ++ cur.toList.drop (n + (Lib.strCells s).length)).take (n + s.size) = _
      rw [List.take_append_of_le_length (by omega), List.take_of_length_le (by omega), htk, bytesV_app, strCells_bytesV]
  · have hrun := Lib.run_append_grow_string (P := Tryz.prog) w 38 9 tt 5 i (.int .u8 0) Tryz.underlying38 Tryz.underlying9 hE.hi hE.hz ⟨g, 0, none⟩ n cap (bytesV l) (by rw [hE.hs, hln]; omega) (fun j v hv => by
      have hjn : j < n := by rw [← hln]; exact (List.getElem?_eq_some_iff.1 hv).1
      rw [Addr.add_lit, Nat.zero_add, hr.cell j hjn]; exact hv) s (by omega) (by omega) (by rw [hE.hb]; exact growslice_fits (by omega) (by omega))
    simp only [resolve, invoke, builtin, Sem.run_bind, Sem.run_pure, Result.andThen_ok, List.map_toArray, List.map_cons, List.map_nil, hs, hx, hrun]
    have hge := grownCap_ge w (n + s.size) cap 5
    refine hK _ _ (h _ _ _ ⟨by rw [bytesV_app, List.length_append, hln, ← strCells_bytesV, hsl], hbase, hge, ?_⟩ ((Below.refl base w).drew.alloc hbase _))
    refine ⟨_, _, heap_alloc_new w.drew _, ?_, ?_, .inl (Nat.le_refl _)⟩
    · simp [size_zeroCells, Value.cells, hln]; omega
    · simp only [Array.toList_append]
      rw [List.take_append_of_le_length (by simp; omega), List.take_of_length_le (by simp; omega), bytesV_app, strCells_bytesV]
end Go.Proofs.YtdjpghgnjcmdnaaGreatDoor

/- The mark of texts: what the program's own 'Mark' comes to. -/
namespace Go.Proofs.YtdjpghgnjcmdnaaGreatDoor
open Go.RowKit
/-- What is summed up: the kind, and of each text its size and itself. -/
def markTo (kind : UInt8) (ps : List ByteArray) (k : Nat) : List UInt8 := kind :: (ps.take k).flatMap fun p => num8 p.size ++ p.data.toList
theorem markTo_step (kind : UInt8) (ps : List ByteArray) (k : Nat) (h : k < ps.length) : markTo kind ps k ++ num8 (ps.getD k ByteArray.empty).size ++ (ps.getD k ByteArray.empty).data.toList = markTo kind ps (k + 1) := by
  have e : ps.take (k + 1) = ps.take k ++ [ps.getD k ByteArray.empty] := by
    rw [List.take_succ_eq_append_getElem h]
    simp [h]
  unfold markTo
  rw [e, List.flatMap_append]
  simp
theorem markTo_len (kind : UInt8) (ps : List ByteArray) (hp : ∀ p ∈ ps, p.size ≤ 20000) (k : Nat) : (markTo kind ps k).length ≤ 1 + 20008 * k := by
  have e : ∀ l : List ByteArray, (∀ p ∈ l, p.size ≤ 20000) → (l.flatMap fun p => num8 p.size ++ p.data.toList).length ≤ 20008 * l.length := by
    intro l
    induction l with
    | nil => intro _; simp
    | cons x r ih =>
      intro h
      have h1 := ih (fun p hp => h p (by simp [hp]))
      have h2 := h x (by simp)
      have h3 : x.data.toList.length = x.size := rfl
      simp only [List.flatMap_cons, List.length_append, num8_len, List.length_cons, h3]
      omega
  have h1 := e (ps.take k) (fun p hp' => hp p (List.mem_of_mem_take hp'))
  have h2 : (ps.take k).length ≤ k := List.length_take_le _ _
  unfold markTo
  simp only [List.length_cons]
  omega
/-- A slice of texts that came in. -/
def Parts (w : World) (v : Value) (ps : List ByteArray) : Prop :=
  ∃ ao cap, v = .slice ao ps.length cap ∧ (ps = [] ∨ ∃ b off, ao = some ⟨b, off, none⟩ ∧ b < w.heap.size ∧ ∀ k, k < ps.length → w.cell? ⟨b, off + k, none⟩ = some (.string (ps.getD k ByteArray.empty)))
theorem Parts.below {w w' : World} {v : Value} {ps : List ByteArray} {B : Nat} (h : Parts w v ps) (hb : Below B w w') (hB : B = w.heap.size) : Parts w' v ps := by
  obtain ⟨ao, cap, hv, h⟩ := h
  refine ⟨ao, cap, hv, ?_⟩
  rcases h with h | ⟨b, off, ha, hl, hc⟩
  · exact .inl h
  · refine .inr ⟨b, off, ha, by have := hb.size; omega, fun k hk => ?_⟩
    rw [hb.cell (p := ⟨b, off + k, none⟩) (by simp; omega)]
    exact hc k hk
set_option maxRecDepth 100000 in
set_option maxHeartbeats 1000000 in
theorem mark_any (kind : UInt8) (v : Value) (ps : List ByteArray) (w : World) (hP : Parts w v ps) (hn : ps.length ≤ 10) (hp : ∀ p ∈ ps, p.size ≤ 20000) (hK : TabK w) :
    Calls Tryz.prog 30 #[.int .u8 (kind.toNat : Int), v] w fun e w' => e = .returned (.string ((⟨(sha (markTo kind ps ps.length)).toArray⟩ : ByteArray).extract 0 16)) ∧ Below w.heap.size w w' := by
  obtain ⟨i5, hE⟩ := elemB
  have h0 := hK.lt
  obtain ⟨ao, cap0, rfl, hP⟩ := hP
  go_enter Tryz.func30, Tryz.ntmps30
  go_wp2
  go_loopw [5, 12] (fun t i wr => ∃ k g m cap : Nat, k ≤ ps.length ∧ i = .int .i64 k ∧ t = .slice (some ⟨g, 0, none⟩) m cap ∧ m ≤ 1 + 20008 * k ∧ BR wr w.heap.size 5 g m cap (bytesV (markTo kind ps k)) ∧ Below w.heap.size w wr)
    (fun _ i _ => ps.length - (intOf i).toNat)
  case atStart => exact ⟨0, w.heap.size, 1, 1, by omega, rfl, rfl, by omega, ⟨rfl, Nat.le_refl _, by omega, _, _, heap_alloc_new w _, rfl, rfl, .inl (Nat.le_refl _)⟩, (Below.refl _ _).alloc (Nat.le_refl _) _⟩
  case round =>
    obtain ⟨k, g, m, cap, hk, rfl, rfl, hm, hr, hb⟩ := hrel
    have hbs := hb.size
    by_cases hlt : k < ps.length
    · rcases hP with hP | ⟨b, off, rfl, hbl, hc⟩
      · rw [hP] at hlt; simp at hlt
      · have hck : wr.cell? ⟨b, off + k, none⟩ = some (.string (ps.getD k ByteArray.empty)) := by
          rw [hb.cell (p := ⟨b, off + k, none⟩) hbl]; exact hc k hlt
        have hst := hide (markTo_step kind ps k hlt)
        have hsz : (ps.getD k ByteArray.empty).size ≤ 20000 := by
          have : ps.getD k ByteArray.empty ∈ ps := by simp [hlt]
          exact hp _ this
        have hln := hide (markTo_len kind ps hp (k + 1))
        generalize ps.getD k ByteArray.empty = p at hck hst hsz
        clear hc hp
        go_wp2_with (first
          | (go_at_call 68; refine (appendNum_any w.heap.size _ m (markTo kind ps k) p.size _ (by omega) (BRn.of hr) (by omega) hbs).mono ?_; rintro e w1 ⟨g1, cap1, rfl, hr1, hb1⟩)
          | (at_builtin; refine append_str hE w.heap.size g1 (m + 8) cap1 (markTo kind ps k ++ num8 p.size) p rfl rfl hr1 (by omega) (by have := hb1.size; omega) ?_; intro g2 cap2 w2 hr2 hb2; rw [hst.out] at hr2))
        go_roundw
        case rel => exact ⟨k + 1, g2, m + 8 + p.size, cap2, by omega, by go_num, rfl, by have h1 := hr2.len; rw [bytesV_len] at h1; have h2 := hln.out; omega, hr2, hb.trans (hb1.trans hb2)⟩
        case measure => simp [intOf]; omega
    · obtain rfl : k = ps.length := by omega
      have hK' := hK.below hb h0
      have hl := markTo_len kind ps hp ps.length
      generalize hT : markTo kind ps ps.length = T at hr hl
      have HT := hide hT
      clear hT hP hp
      have hS := hide (sum_any ⟨T.toArray⟩ (by show T.length ≤ 800000; omega) wr hK')
      have hlen : (sha T).length = 32 := by
        unfold sha stBytes
        rfl
      generalize hSH : sha T = S at hS hlen
      have HSH := hide hSH
      clear hSH
      have hSs : (⟨S.toArray⟩ : ByteArray).size = 32 := hlen
      go_wp2_with (first
        | ((with_reducible refine conv_out g m cap T ?_ hr ?_); rfl)
        | (go_at_call 63; refine (hS.out).mono ?_; rintro e w1 ⟨rfl, hb1⟩))
      go_ret
      exact ⟨ret_val (by show Value.string ((⟨S.toArray⟩ : ByteArray).extract 0 16) = _; rw [HT.out, HSH.out]), hb.trans (hb1.mono hbs)⟩
end Go.Proofs.YtdjpghgnjcmdnaaGreatDoor

/- A mark as a text; texts held against each other. -/
namespace Go.Proofs.YtdjpghgnjcmdnaaGreatDoor
open Go.RowKit
attribute [local go_sem ↓] Go.wp_at_zero Go.wp_at_succ
def markB (kind : UInt8) (ps : List ByteArray) : ByteArray := (⟨(sha (markTo kind ps ps.length)).toArray⟩ : ByteArray).extract 0 16
theorem markB_size (kind : UInt8) (ps : List ByteArray) : (markB kind ps).size = 16 := by
  have hlen : (⟨(sha (markTo kind ps ps.length)).toArray⟩ : ByteArray).size = 32 := by
    show (sha (markTo kind ps ps.length)).length = 32
    unfold sha stBytes
    rfl
  unfold markB
  rw [ByteArray.size_extract, hlen]
  rfl
theorem lists_ne {a b : ByteArray} (h : a ≠ b) : (a.toList == b.toList) = false := by
  rw [beq_eq_false_iff_ne]
  intro e
  rw [ByteArray.toList_eq, ByteArray.toList_eq] at e
  exact h (ByteArray.ext (Array.toList_inj.1 e))
theorem lists_eq {a b : ByteArray} (h : a = b) : (a.toList == b.toList) = true := by rw [h]; simp
end Go.Proofs.YtdjpghgnjcmdnaaGreatDoor

/- What a call may turn in memory; and two vaults as they lie there: the document's and the program's. -/
namespace Go.Proofs.YtdjpghgnjcmdnaaGreatDoor
open Go.RowKit Go.Maps
/-- Of what was there nothing has turned but the blocks of a list. -/
structure Stirred (L : List Nat) (w w' : World) : Prop where
  os : w'.os = w.os
  tape : w'.tape = w.tape
  output : w'.output = w.output
  size : w.heap.size ≤ w'.heap.size
  block : ∀ k, k < w.heap.size → k ∉ L → w'.heap[k]? = w.heap[k]?
theorem Stirred.refl (L : List Nat) (w : World) : Stirred L w w := ⟨rfl, rfl, rfl, Nat.le_refl _, fun _ _ _ => rfl⟩
theorem Stirred.andThen {L M : List Nat} {a b c : World} (h : Stirred L a b) (k : Stirred M b c) (hM : ∀ j ∈ M, j ∈ L ∨ a.heap.size ≤ j) : Stirred L a c :=
  ⟨k.os.trans h.os, k.tape.trans h.tape, k.output.trans h.output, Nat.le_trans h.size k.size, fun i hi hn =>
    (k.block i (Nat.lt_of_lt_of_le hi h.size) (fun hm => by
      rcases hM i hm with h1 | h1
      · exact hn h1
      · omega)).trans (h.block i hi hn)⟩
theorem Stirred.mono {L M : List Nat} {a b : World} (h : Stirred L a b) (hM : ∀ j ∈ L, j ∈ M) : Stirred M a b :=
  ⟨h.os, h.tape, h.output, h.size, fun k hk hn => h.block k hk fun hl => hn (hM k hl)⟩
theorem Stirred.of_below {w w' : World} (h : Below w.heap.size w w') (L : List Nat) : Stirred L w w' := ⟨h.os, h.tape, h.output, h.size, fun k hk _ => h.block k hk⟩
theorem Stirred.of_grown {w w' : World} {b : Nat} (h : w.grownBy w' (some b)) : Stirred [b] w w' := ⟨h.os, h.tape, h.output, h.size, fun k hk hn => h.block k hk (fun e => hn (by cases e; simp))⟩
theorem Stirred.of_turned {w w' : World} {b : Nat} (h : w.mapTurned w' b) : Stirred [b] w w' := Stirred.of_grown h.grown
theorem Stirred.setCell (w : World) (a : Addr) (v : Value) : Stirred [a.block] w (w.setCell a v) := ⟨rfl, rfl, rfl, by simp [World.setCell], fun k _ hn => Below.heap_setCell _ _ _ _ (by simpa using hn)⟩
theorem Stirred.then_below {L : List Nat} {a b c : World} (h : Stirred L a b) (k : Below b.heap.size b c) : Stirred L a c := h.andThen (Stirred.of_below k []) (fun j hj => by simp at hj)
theorem Stirred.below {L : List Nat} {w w' : World} {B : Nat} (h : Stirred L w w') (hB : B ≤ w.heap.size) (hL : ∀ k ∈ L, B ≤ k) : Below B w w' :=
  ⟨h.os, h.tape, h.output, h.size, fun k hk => h.block k (by omega) (fun hm => by have := hL k hm; omega)⟩
theorem Stirred.cell {L : List Nat} {w w' : World} (h : Stirred L w w') {p : Addr} (hp : p.block < w.heap.size) (hn : p.block ∉ L) : w'.cell? p = w.cell? p := World.cell?_of_block (w := w) (h.block p.block hp hn)
theorem ownsMap_turned {P : Program} {k : TypeId} {R : Value → Option (DataW Unit × List MemPlace)} {w w' : World} {b n : Nat} {D : DataW Unit} {L : List Nat} (h : w.ownsMap P k R b n D) (t : Stirred L w w') (hb : b ∉ L) : w'.ownsMap P k R b n D := by
  have hlt := h.lt
  obtain ⟨es, clock, hh, r⟩ := h
  exact ⟨es, clock, (t.block b hlt hb).trans hh, r⟩
theorem HasR.turned {w w' : World} {b : Nat} {t : TypeId} {cs : Array Value} {L : List Nat} (h : HasR w b t cs) (k : Stirred L w w') (hb : b ∉ L) : HasR w' b t cs := by
  unfold HasR
  rw [k.block b h.lt hb]
  exact h
/-- A subject's key of a number. -/
def keyB (sec s : ByteArray) (n : Nat) : ByteArray := ⟨(sha (markB 118 [sec, s, ⟨(num8 n).toArray⟩]).data.toList).toArray⟩
def keyL (sec : ByteArray) (l : List UInt8) (n : Nat) : List UInt8 := (keyB sec ⟨l.toArray⟩ n).data.toList
theorem keyB_size (sec s : ByteArray) (n : Nat) : (keyB sec s n).size = 32 := by
  show (sha (markB 118 [sec, s, ⟨(num8 n).toArray⟩]).data.toList).length = 32
  unfold sha stBytes
  rfl
theorem keyL_ne (sec : ByteArray) (l : List UInt8) (n : Nat) : keyL sec l n ≠ [] := by
  intro h
  have h1 : (keyL sec l n).length = 32 := by
    have := keyB_size sec ⟨l.toArray⟩ n
    unfold keyL
    rw [Array.length_toList]
    exact this
  rw [h] at h1
  simp at h1
theorem bytes_back (s : ByteArray) : (⟨s.data.toList.toArray⟩ : ByteArray) = s := by
  apply ByteArray.ext
  simp
/-- The last key, if it is there; else nothing. -/
def lastB (sec : ByteArray) (σ : Kept) (s : ByteArray) : ByteArray := if (σ s.data.toList).2 then keyB sec s (σ s.data.toList).1 else ByteArray.empty
theorem lastB_is (sec : ByteArray) (σ : Kept) (s : ByteArray) : (⟨(keyOr (keyL sec) σ s.data.toList).toArray⟩ : ByteArray) = lastB sec σ s := by
  unfold keyOr lastB keyL
  split
  · rw [bytes_back s, bytes_back]
  · rfl
theorem lastB_none {sec : ByteArray} {σ : Kept} {s : ByteArray} (h : (σ s.data.toList).2 = false) : lastB sec σ s = ByteArray.empty := by unfold lastB; rw [h]; rfl
theorem lastB_held {sec : ByteArray} {σ : Kept} {s : ByteArray} (h : (σ s.data.toList).2 = true) : lastB sec σ s = keyB sec s (σ s.data.toList).1 := by unfold lastB; rw [h]; rfl
theorem law9 : Keyed Tryz.prog 9 := string_keyed Tryz.underlying9
theorem key9 (s : ByteArray) (h : s.size ≤ 60) : keyOf Tryz.prog 9 (.string s) = some (.string s.data.toList) := WideMaps.keyOf_string_mk Tryz.underlying9 (by unfold maxLen; omega)
theorem zero3 (w : World) : (zeroValue 3).run Tryz.prog w = .ok (.int .i64 0) w := by kernel_rfl
theorem zero4 (w : World) : (zeroValue 4).run Tryz.prog w = .ok (.bool false) w := by kernel_rfl
theorem zero107 (w : World) : (zeroValue 145).run Tryz.prog w = .ok (.agg #[.int .i64 0, .string ByteArray.empty]) w := by kernel_rfl
/-- The program's vault. -/
structure ProgV (w : World) (b : Nat) (mo : Option Nat) (sec : ByteArray) (n : Nat) (σ : Kept) : Prop where
  row : HasR w b 143 #[.string sec, .map mo]
  none : mo = none → σ = kept0
  held : ∀ m, mo = some m → ∃ D, w.ownsMap Tryz.prog 9 holdElem m n D ∧ HeldIs (keyL sec) D σ
theorem ProgV.turned {w w' : World} {b : Nat} {mo : Option Nat} {sec : ByteArray} {n : Nat} {σ : Kept} {L : List Nat} (h : ProgV w b mo sec n σ) (t : Stirred L w w') (hb : b ∉ L) (hm : ∀ m, mo = some m → m ∉ L) : ProgV w' b mo sec n σ :=
  ⟨h.row.turned t hb, h.none, fun m e => by obtain ⟨D, o, i⟩ := h.held m e; exact ⟨D, ownsMap_turned o t (hm m e), i⟩⟩
theorem ProgV.below {w w' : World} {b : Nat} {mo : Option Nat} {sec : ByteArray} {n : Nat} {σ : Kept} (h : ProgV w b mo sec n σ) (k : Below w.heap.size w w') : ProgV w' b mo sec n σ := h.turned (Stirred.of_below k []) (by simp) (by simp)
theorem ProgV.apart {w : World} {b m : Nat} {mo : Option Nat} {sec : ByteArray} {n : Nat} {σ : Kept} (h : ProgV w b mo sec n σ) (e : mo = some m) : m ≠ b := by
  obtain ⟨D, ⟨es, clock, hh, _⟩, _⟩ := h.held m e
  intro e1
  have h1 := h.row
  unfold HasR at h1
  rw [e1, h1] at hh
  cases hh
end Go.Proofs.YtdjpghgnjcmdnaaGreatDoor
