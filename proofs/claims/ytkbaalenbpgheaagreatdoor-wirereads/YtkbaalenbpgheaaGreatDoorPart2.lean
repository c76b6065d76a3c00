/- Texts of this proof, one behind the other. -/
import Derived.ArgAppend
import Derived.Deep.AppendLies
import Derived.Laws.IdiomStrings
import Derived.Test.YtkbaalenbpgheaaGreatDoorProg
import Derived.Test.YtkbaalenbpgheaaGreatDoorPart1
/- Slices that the calls themselves make: a row of cells that is read, grown by appending, and turned into a text. -/
namespace Go.Proofs.YtkbaalenbpgheaaGreatDoor
open Go Go.RowKit

/-- The slice of n elements at the head of block g, of capacity cap, has the elements xs; nothing in it is shut. -/
structure BR (w : World) (base : Nat) (e : TypeId) (g n cap : Nat) (xs : List Value) : Prop where
  len : xs.length = n
  base : base ≤ g
  le : n ≤ cap
  blk : ∃ cur fr, w.heap[g]? = some (.cells cur e fr) ∧ cur.size = cap ∧ cur.toList.take n = xs ∧ (fr.2 ≤ fr.1 ∨ cap ≤ fr.1)

theorem BR.lt {w : World} {base : Nat} {e : TypeId} {g n cap : Nat} {xs : List Value} (h : BR w base e g n cap xs) : g < w.heap.size := by
  obtain ⟨cur, fr, hg, _⟩ := h.blk
  exact lt_of_block hg
theorem BR.same {w w' : World} {base : Nat} {e : TypeId} {g n cap : Nat} {xs : List Value} (h : BR w base e g n cap xs) (hw : w'.heap[g]? = w.heap[g]?) : BR w' base e g n cap xs :=
  ⟨h.len, h.base, h.le, by rw [hw]; exact h.blk⟩
theorem BR.cell {w : World} {base : Nat} {e : TypeId} {g n cap : Nat} {xs : List Value} (h : BR w base e g n cap xs) (j : Nat) (hj : j < n) : w.cell? ⟨g, j, none⟩ = xs[j]? := by
  obtain ⟨cur, fr, hg, hs, ht, _⟩ := h.blk
  rw [cell_of_row w g j cur e fr hg, ← ht, List.getElem?_take_of_lt hj]
  simp
theorem BR.alloc {w : World} {base : Nat} {e : TypeId} {g n cap : Nat} {xs : List Value} (h : BR w base e g n cap xs) (o : Obj) : BR (w.alloc o) base e g n cap xs :=
  h.same (Below.heap_alloc w o g h.lt)
theorem BR.drew {w : World} {base : Nat} {e : TypeId} {g n cap : Nat} {xs : List Value} (h : BR w base e g n cap xs) : BR w.drew base e g n cap xs := h.same rfl
theorem BR.drewN {w : World} {base : Nat} {e : TypeId} {g n cap : Nat} {xs : List Value} (h : BR w base e g n cap xs) (k : Nat) : BR (w.drewN k) base e g n cap xs := h.same rfl
theorem BR.other {w : World} {base : Nat} {e : TypeId} {g n cap : Nat} {xs : List Value} (h : BR w base e g n cap xs) (a : Addr) (ha : g ≠ a.block) (v : Value) : BR (w.setCell a v) base e g n cap xs :=
  h.same (heap_setCell_other w a g v ha)
theorem BR.below {w w' : World} {b base : Nat} {e : TypeId} {g n cap : Nat} {xs : List Value} (h : BR w base e g n cap xs) (hb : Below b w w') (hg : g < b) : BR w' base e g n cap xs :=
  h.same (hb.block g hg)
theorem BR.kept {w w' : World} {base : Nat} {e : TypeId} {g n cap : Nat} {xs : List Value} {row : Option Nat} (h : BR w base e g n cap xs) (hg : w.grownBy w' row) (hr : some g ≠ row) : BR w' base e g n cap xs :=
  h.same (hg.block g h.lt hr)
theorem BR.mono {w : World} {base base' : Nat} {e : TypeId} {g n cap : Nat} {xs : List Value} (h : BR w base e g n cap xs) (hb : base' ≤ base) : BR w base' e g n cap xs :=
  ⟨h.len, Nat.le_trans hb h.base, h.le, h.blk⟩
theorem HasR.kept {w w' : World} {B : Nat} {t : TypeId} {cs : Array Value} {row : Option Nat} (h : HasR w B t cs) (hg : w.grownBy w' row) (hr : some B ≠ row) : HasR w' B t cs := by
  have hl := h.lt
  unfold HasR at *; rw [hg.block B hl hr]; exact h
theorem BR.of_owns {w : World} {base : Nat} {e : TypeId} {v : Value} {n : Nat} {xs : List Value} (h : w.ownsRow base e 1 v n xs) (hn : 0 < n) : ∃ g cap, v = .slice (some ⟨g, 0, none⟩) n cap ∧ BR w base e g n cap xs := by
  obtain ⟨hl, h2⟩ := h
  rcases h2 with ⟨_, h0⟩ | ⟨g, cap, cur, hv, hb, hg, hle, _, hs, ht⟩
  · omega
  · simp only [Nat.mul_one] at hl hs ht
    exact ⟨g, cap, hv, ⟨hl, hb, hle, cur, (0, 0), hg, hs, ht, .inl (Nat.le_refl _)⟩⟩
/-- The head of a block that has just been laid with the one element. -/
theorem news_one {w : World} (x : Value) (e : TypeId) : ∀ (j : Nat) (u : Value), [x][j]? = some u → (w.alloc (.cells #[x] e)).cell? ((⟨w.heap.size, 0, none⟩ : Addr).add j) = some u :=
  World.news_of_block (heap_alloc_new w _)
theorem news_blk {w : World} {B : Nat} {e : TypeId} {cs : Array Value} (h : HasR w B e cs) : ∀ (j : Nat) (u : Value), cs.toList[j]? = some u → w.cell? ((⟨B, 0, none⟩ : Addr).add j) = some u :=
  World.news_of_block h

/-- What the table says of a slice's element that is one cell. -/
structure Elem (P : Program) (t e : TypeId) (i : TypeInfo) (z : Value) (bytes : Nat) : Prop where
  ht : P.underlying t = some (.slice e)
  hi : P.info? e = some i
  hz : i.zero = some z
  hs : i.size = 1
  hb : i.bytes = bytes
  hc : z.cells.size = 1
  h8 : bytes ≤ 16

/-- The slice that is appended to: nil, or a row of the calls' own. -/
def BRn (w : World) (base : Nat) (e : TypeId) (v : Value) (n : Nat) (xs : List Value) : Prop :=
  (v = .slice none 0 0 ∧ n = 0 ∧ xs = []) ∨ ∃ g cap, v = .slice (some ⟨g, 0, none⟩) n cap ∧ BR w base e g n cap xs
theorem BRn.nil (w : World) (base : Nat) (e : TypeId) : BRn w base e (.slice none 0 0) 0 [] := .inl ⟨rfl, rfl, rfl⟩
theorem BRn.of {w : World} {base : Nat} {e : TypeId} {g n cap : Nat} {xs : List Value} (h : BR w base e g n cap xs) : BRn w base e (.slice (some ⟨g, 0, none⟩) n cap) n xs := .inr ⟨g, cap, rfl, h⟩
theorem BRn.alloc {w : World} {base : Nat} {e : TypeId} {v : Value} {n : Nat} {xs : List Value} (h : BRn w base e v n xs) (o : Obj) : BRn (w.alloc o) base e v n xs := by
  rcases h with h | ⟨g, cap, hv, h⟩
  · exact .inl h
  · exact .inr ⟨g, cap, hv, h.alloc o⟩
theorem BRn.len {w : World} {base : Nat} {e : TypeId} {v : Value} {n : Nat} {xs : List Value} (h : BRn w base e v n xs) : xs.length = n := by
  rcases h with ⟨_, h1, h2⟩ | ⟨g, cap, hv, h⟩
  · rw [h1, h2]; rfl
  · exact h.len

theorem grownBy_setCells (w : World) (g o : Nat) (vs : List Value) : w.grownBy (w.setCells g o vs) (some g) := by
  have hb : ∀ (vs : List Value) (o : Nat) (w : World), (w.setCells g o vs).os = w.os ∧ (w.setCells g o vs).tape = w.tape ∧ (w.setCells g o vs).output = w.output ∧ ∀ k, k ≠ g → (w.setCells g o vs).heap[k]? = w.heap[k]? := by
    intro vs
    induction vs with
    | nil => intro o w; exact ⟨rfl, rfl, rfl, fun _ _ => rfl⟩
    | cons v r ih =>
      intro o w
      obtain ⟨h1, h2, h3, h4⟩ := ih (o + 1) (w.setCell ⟨g, o, none⟩ v)
      exact ⟨h1, h2, h3, fun k hk => by rw [World.setCells, h4 k hk]; exact heap_setCell_other w ⟨g, o, none⟩ k v hk⟩
  obtain ⟨h1, h2, h3, h4⟩ := hb vs o w
  exact ⟨h1, h2, h3, by rw [size_setCells]; exact Nat.le_refl _, fun k _ hk => h4 k (fun e => hk (by rw [e]))⟩

theorem heap_setCells_fr : ∀ (vs : List Value) (o : Nat) (w : World) (g : Nat) (t : TypeId) (cur : Array Value) (fr : Nat × Nat), w.heap[g]? = some (.cells cur t fr) → o + vs.length ≤ cur.size →
    (w.setCells g o vs).heap[g]? = some (.cells (cur.toList.take o ++ vs ++ cur.toList.drop (o + vs.length)).toArray t fr)
  | [], o, w, g, t, cur, fr, h, _ => by simpa [World.setCells] using h
  | v :: r, o, w, g, t, cur, fr, h, hl => by
    simp only [List.length_cons] at hl
    have h1 : (w.setCell ⟨g, o, none⟩ v).heap[g]? = some (.cells (cur.setIfInBounds o v) t fr) := by
      simp [World.setCell, Array.getElem?_modify, h]
    have ih := heap_setCells_fr r (o + 1) _ g t _ fr h1 (by simp; omega)
    have e : (cur.setIfInBounds o v).toList.take (o + 1) ++ r ++ (cur.setIfInBounds o v).toList.drop (o + 1 + r.length) = cur.toList.take o ++ v :: r ++ cur.toList.drop (o + (v :: r).length) := by
      rw [Array.toList_setIfInBounds]
      have ho : o < cur.toList.length := by simp; omega
      rw [List.drop_set_of_lt (by omega)]
      have e1 : (cur.toList.set o v).take (o + 1) = cur.toList.take o ++ [v] := by
        rw [List.take_succ_eq_append_getElem (by simpa using ho), List.getElem_set_self, List.take_set_of_le (Nat.le_refl _)]
      rw [e1]
      have e2 : o + 1 + r.length = o + (v :: r).length := by simp; omega
      rw [e2]; simp
    rw [e] at ih
    exact ih

/-- APPENDED: to nil or to a row of the calls' own. (Said of the operation as it is written.) -/
theorem append_br {P : Program} {ops : Array Oper} {rest : List Oper} {a : Act} {w : World} {Q : Exit → Act → World → Prop} {tt : TypeId} {pos : String} {af : Array Edge} {s x : Operand} {d : Tmp} {t : TypeId}
    (e : TypeId) {i : TypeInfo} {z : Value} {bytes : Nat} (hE : Elem P t e i z bytes) (base : Nat) (v : Value) (n : Nat) (xs : List Value) (ad : Addr) (m c : Nat) (news : List Value)
    (hs : a.eval s = v) (hx : a.eval x = .slice (some ad) m c) (hv : BRn w base e v n xs) (hm : news.length = m) (hm0 : 0 < m) (hnews : ∀ j u, news[j]? = some u → w.cell? (ad.add j) = some u) (h1 : ∀ u ∈ news, u.oneCell' = true)
    (hlen : n + m ≤ 1000000) (hbase : base ≤ w.heap.size)
    (h : ∀ g cap w', BR w' base e g (n + m) cap (xs ++ news) → w.grownBy w' v.ownBlock → (v.ownBlock = some g ∨ w.heap.size ≤ g) → Below base w w' → wpList P ops Q rest (a.put (some d) (.slice (some ⟨g, 0, none⟩) (n + m) cap)) w') :
    wpList P ops Q (⟨some d, .call { callee := .builtin .append, args := #[s, x], argTypes := #[t, t] }, tt, pos, af, none⟩ :: rest) a w := by
  have hby : (n + m) * bytes ≤ 140737488355328 := by
    have := hE.h8
    have h2 : (n + m) * bytes ≤ 1000000 * 16 := Nat.mul_le_mul hlen this
    omega
  rcases hv with ⟨rfl, rfl, rfl⟩ | ⟨g, cap, rfl, hr⟩
  · refine wpList_append_own w rfl s x t rfl w.heap.size e i z 1 bytes hE.ht hE.hi hE.hz hE.hs hE.hb hE.hc (by omega) (.slice none 0 0) 0 [] hs (World.ownsRow_nil _ _ _ _) ad m c news hx (by omega) hnews h1 (by unfold maxLen; omega) hby (Nat.le_refl _) ?_
    intro v' w' ho hg _
    obtain ⟨g, cap, rfl, hb⟩ := BR.of_owns ho (by omega)
    exact h g cap w' (hb.mono hbase) hg (.inr hb.base) ((Below.refl base w).grown hg hbase (by intro k hk; simp [Value.ownBlock] at hk))
  · obtain ⟨cur, fr, hgb, hsz, htk, hfr⟩ := hr.blk
    have hle := hr.le
    refine wpList_append_arg w rfl s x t rfl e i z 1 bytes hE.ht hE.hi hE.hz hE.hs hE.hb hE.hc (by omega) g 0 n cap xs hs (by rw [hr.len]; omega) ?_ ad m c news hx (by omega) hnews h1 ?_ (by unfold maxLen; omega) hby ?_ ?_
    · intro j u hj
      have hjn : j < n := by
        rw [← hr.len]
        exact (List.getElem?_eq_some_iff.1 hj).1
      rw [Nat.zero_add, hr.cell j hjn]; exact hj
    · intro hroom j hj
      have hj' : 0 + n * 1 + j < cap := by omega
      refine ⟨?_, ?_⟩
      · rw [cell_of_row w g _ cur e fr hgb, Array.getElem?_eq_getElem (by omega)]; rfl
      · unfold World.frozen?
        simp only [hgb]
        rcases hfr with h5 | h5
        · simp; omega
        · simp; omega
    · intro hroom
      have e1 : 0 + n * 1 = n := by omega
      rw [e1]
      refine h g cap (w.setCells g n news) ⟨by rw [List.length_append, hr.len, hm], hr.base, hroom, ?_⟩ (grownBy_setCells w g n news) (.inl rfl) (below_setCells news n w w g base (Below.refl _ _) hr.base)
      refine ⟨_, fr, heap_setCells_fr news n w g e cur fr hgb (by omega), ?_, ?_, hfr⟩
      · simp; omega
      · have hl2 : (cur.toList.take n ++ news).length = n + m := by simp; omega
        show (cur.toList.take n ++ news ++ cur.toList.drop (n + news.length)).take (n + m) = xs ++ news
        rw [List.take_append_of_le_length (by omega), List.take_of_length_le (by omega), htk]
    · intro hgr v' w' ho hg
      obtain ⟨g', cap', rfl, hb⟩ := BR.of_owns ho (by omega)
      exact h g' cap' w' (hb.mono hbase) ⟨hg.os, hg.tape, hg.output, hg.size, fun k hk _ => hg.block k hk (by simp)⟩ (.inr hb.base) ((Below.refl base w).grown hg hbase (by intro k hk; simp at hk))
end Go.Proofs.YtkbaalenbpgheaaGreatDoor

/- Bytes: the laws for the program's own slices of bytes, of words of 64 bits and of numbers. -/
namespace Go.Proofs.YtkbaalenbpgheaaGreatDoor
open Go Go.RowKit

theorem Tryz.info5' : (Tryz.prog.info? 5).map (fun i => (i.zero, i.size, i.bytes)) = some (some (.int .u8 0), 1, 1) := by kernel_rfl
theorem Tryz.info38' : (Tryz.prog.info? 192).map (fun i => (i.zero, i.size, i.bytes)) = some (some (.int .u64 0), 1, 8) := by kernel_rfl
theorem Tryz.info3' : (Tryz.prog.info? 3).map (fun i => (i.zero, i.size, i.bytes)) = some (some (.int .i64 0), 1, 8) := by kernel_rfl
theorem elemB : ∃ i, Elem Tryz.prog 163 5 i (.int .u8 0) 1 := by
  obtain ⟨i, hi, h0, h1, h2⟩ := info_parts Tryz.info5'
  exact ⟨i, Tryz.underlying163, hi, h0, h1, h2, rfl, by omega⟩
theorem elemI : ∃ i, Elem Tryz.prog 212 3 i (.int .i64 0) 8 := by
  obtain ⟨i, hi, h0, h1, h2⟩ := info_parts Tryz.info3'
  exact ⟨i, Tryz.underlying212, hi, h0, h1, h2, rfl, by omega⟩

/-- Bytes as cells. -/
def bytesV (l : List UInt8) : List Value := l.map fun c => Value.int .u8 (c.toNat : Int)
theorem bytesV_len (l : List UInt8) : (bytesV l).length = l.length := by simp [bytesV]
theorem bytesV_app (l m : List UInt8) : bytesV (l ++ m) = bytesV l ++ bytesV m := by simp [bytesV]
theorem bytesV_one (l : List UInt8) : ∀ u ∈ bytesV l, u.oneCell' = true := by
  intro u hu
  simp only [bytesV, List.mem_map] at hu
  obtain ⟨c, _, rfl⟩ := hu
  rfl

/-- A text turned into bytes. -/
theorem conv_in {ops : Array Oper} {rest : List Oper} {a : Act} {w : World} {Q : Exit → Act → World → Prop} {tt : TypeId} {pos : String} {af : Array Edge} {x : Operand} {d : Tmp} (s : ByteArray) (hx : a.eval x = .string s)
    (h : ∀ cap w', BR w' w.heap.size 5 w.heap.size s.size cap (bytesV s.data.toList) → w.grownBy w' none → w'.heap.size = w.heap.size + 1 → wpList Tryz.prog ops Q rest (a.put (some d) (.slice (some ⟨w.heap.size, 0, none⟩) s.size cap)) w') :
    wpList Tryz.prog ops Q (⟨some d, .convert 9 163 x, tt, pos, af, none⟩ :: rest) a w := by
  refine wpList_plain rfl fun K hK => ?_
  unfold Oper.wp execOp
  simp only [hx, Sem.run_bind, run_bytes_of_string w 9 163 5 s Tryz.underlying9 Tryz.underlying163 Tryz.underlying5, Result.andThen_ok, Sem.run_pure]
  refine hK _ _ (h _ _ ⟨by rw [bytesV_len]; rfl, Nat.le_refl _, grownCap_ge _ _ _ _, ?_⟩ ?_ ?_)
  · refine ⟨_, _, heap_alloc_new _ _, ?_, ?_, ?_⟩
    · have := grownCap_ge w s.size 0 5
      have e : s.data.size = s.size := rfl
      simp [bytesRow]; omega
    · have e : s.data.size = s.size := rfl
      simp only [bytesRow, Array.toList_append, Array.toList_map]
      rw [List.take_append_of_le_length (by simp [e]), List.take_of_length_le (by simp [e])]
      rfl
    · right
      have := grownCap_ge w s.size 0 5
      have e : s.data.size = s.size := rfl
      simp [bytesRow]; omega
  · exact ⟨rfl, rfl, rfl, by simp, fun k hk _ => Below.heap_alloc w.drew _ k hk⟩
  · simp
/-- Bytes turned into a text. -/
theorem conv_out {ops : Array Oper} {rest : List Oper} {a : Act} {w : World} {Q : Exit → Act → World → Prop} {tt : TypeId} {pos : String} {af : Array Edge} {x : Operand} {d : Tmp} {base : Nat} (g n cap : Nat) (l : List UInt8) (hx : a.eval x = .slice (some ⟨g, 0, none⟩) n cap)
    (hr : BR w base 5 g n cap (bytesV l)) (h : wpList Tryz.prog ops Q rest (a.put (some d) (.string ⟨l.toArray⟩)) w) :
    wpList Tryz.prog ops Q (⟨some d, .convert 163 9 x, tt, pos, af, none⟩ :: rest) a w := by
  refine wpList_plain rfl fun K hK => ?_
  have hl : n = l.length := by rw [← hr.len, bytesV_len]
  subst hl
  have hrun := run_convert_bytes_back (P := Tryz.prog) w 163 9 5 ⟨g, 0, none⟩ cap l Tryz.underlying163 Tryz.underlying5 Tryz.underlying9 (fun j hj => by
    have hadd : (⟨g, 0, none⟩ : Addr).add j = ⟨g, j, none⟩ := by unfold Addr.add; split <;> simp_all
    rw [hadd, hr.cell j hj]
    simp [bytesV, hj])
  unfold Oper.wp execOp
  simp only [hx, Sem.run_bind, hrun, Result.andThen_ok, Sem.run_pure]
  exact hK _ _ h
end Go.Proofs.YtkbaalenbpgheaaGreatDoor

/- What the texts of the sums and of the stream share. -/
namespace Go.Proofs.YtkbaalenbpgheaaGreatDoor
open Go Go.RowKit
theorem ret_val {a b : Value} (h : a = b) : Ending.returned a = .returned b := by rw [h]

/-- A byte as a word. -/
def bw (c : UInt8) : BitVec 32 := BitVec.ofNat 32 c.toNat
theorem N_byte (c : UInt8) : ((c.toNat : Nat) : Int) % 4294967296 = N (bw c) := by
  have := c.toNat_lt
  unfold bw; rw [N_ofNat _ (by omega)]; omega
theorem N_shl24 (x : BitVec 32) : N x * (16777216 : Int) % (4294967296 : Int) = N (x <<< 24) := N_shlm x 24
theorem N_shl16 (x : BitVec 32) : N x * (65536 : Int) % (4294967296 : Int) = N (x <<< 16) := N_shlm x 16
theorem N_shl8 (x : BitVec 32) : N x * (256 : Int) % (4294967296 : Int) = N (x <<< 8) := N_shlm x 8
theorem bw_nat (c : UInt8) : (bw c).toNat = c.toNat := by
  have := c.toNat_lt
  unfold bw; rw [BitVec.toNat_ofNat]; omega
theorem nat4 (a b c d : Nat) (hb : b < 256) (hc : c < 256) (hd : d < 256) : a * 16777216 ||| b * 65536 ||| c * 256 ||| d = a * 16777216 + b * 65536 + c * 256 + d := by
  have e1 : a * 16777216 ||| b * 65536 = (a * 256 + b) <<< 16 := by
    have h := Nat.shiftLeft_add_eq_or_of_lt (a := a) (b := b) (i := 8) hb
    have h2 : (a <<< 8 ||| b) <<< 16 = a <<< 8 <<< 16 ||| b <<< 16 := Nat.shiftLeft_or_distrib
    rw [← h] at h2
    rw [Nat.shiftLeft_eq a 8, ← Nat.shiftLeft_eq a 8, ← Nat.shiftLeft_add] at h2
    rw [Nat.shiftLeft_eq a 24, Nat.shiftLeft_eq b 16, Nat.shiftLeft_eq a 8] at h2
    exact h2.symm
  have e2 : (a * 256 + b) <<< 16 ||| c * 256 = ((a * 256 + b) * 256 + c) <<< 8 := by
    have h := Nat.shiftLeft_add_eq_or_of_lt (a := a * 256 + b) (b := c) (i := 8) hc
    have h2 : ((a * 256 + b) <<< 8 ||| c) <<< 8 = (a * 256 + b) <<< 8 <<< 8 ||| c <<< 8 := Nat.shiftLeft_or_distrib
    rw [← h, ← Nat.shiftLeft_add, Nat.shiftLeft_eq (a * 256 + b) 8, Nat.shiftLeft_eq c 8] at h2
    exact h2.symm
  rw [e1, e2, ← Nat.shiftLeft_add_eq_or_of_lt (i := 8) hd, Nat.shiftLeft_eq]
  show ((a * 256 + b) * 256 + c) * 256 + d = _
  omega
theorem ext_at (s : ByteArray) (a b i : Nat) (h : i < (s.extract a b).size) : (s.extract a b)[i] = s.data.toList.getD (a + i) 0 := by
  have h2 : a + i < s.size := by rw [ByteArray.size_extract] at h; omega
  have h3 : a + i < s.data.size := h2
  rw [ByteArray.getElem_extract]
  show s.data[a + i] = _
  rw [List.getD_eq_getElem?_getD, Array.getElem?_toList, Array.getElem?_eq_getElem h3]; rfl
theorem br_one (w : World) (u : Nat) : BR (w.alloc (.cells #[.int .u8 ((u : Int) % 256)] 5)) w.heap.size 5 w.heap.size 1 1 (bytesV [UInt8.ofNat u]) :=
  ⟨rfl, Nat.le_refl _, Nat.le_refl _, _, _, heap_alloc_new w _, rfl, by simp [bytesV], .inl (Nat.le_refl _)⟩
theorem one_u8 (n : Int) : ∀ u ∈ [Value.int .u8 n], u.oneCell' = true := by
  intro u hu; simp at hu; subst hu; rfl
theorem bytes_app (a b : Array UInt8) : (⟨a⟩ : ByteArray) ++ ⟨b⟩ = ⟨a ++ b⟩ := by
  apply ByteArray.ext
  rw [ByteArray.data_append]
theorem byte_at (s : ByteArray) (k : Nat) (h : k < s.size) (w : World) : (Instr.index 9 (.string s) (.int .i64 (k : Int))).run Tryz.prog w = .ok (.int .u8 ((s[k].toNat : Nat) : Int)) w := by
  rw [run_index_string w 9 s .i64 k Tryz.underlying9]
  simp [h]
theorem byte_get (s : ByteArray) (k : Nat) (h : k < s.size) (w : World) : (Instr.index 9 (.string s) (.int .i64 (k : Int))).run Tryz.prog w = .ok (.int .u8 (((s.data.toList.getD k 0).toNat : Nat) : Int)) w := by
  rw [run_index_string w 9 s .i64 k Tryz.underlying9]
  have h2 : k < s.data.size := h
  have e : s[k] = s.data.toList.getD k 0 := by
    rw [List.getD_eq_getElem?_getD, Array.getElem?_toList, Array.getElem?_eq_getElem h2]; rfl
  simp [h, e]
end Go.Proofs.YtkbaalenbpgheaaGreatDoor
