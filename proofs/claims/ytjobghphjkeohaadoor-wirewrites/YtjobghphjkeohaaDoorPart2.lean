/- Texts of this proof, one behind the other. -/
import Derived.Test.YtjobghphjkeohaaDoorProg
import Derived.WalkKit
import Derived.WalkSpells
import Derived.WalkLawsBesides
import Derived.Deep.QuietTactic
import Derived.BigQuiet
import Derived.Test.YtjobghphjkeohaaDoorPart1
/- Bytes: the laws for the program's own slices of bytes, of words of 64 bits and of numbers. -/
namespace Go.Proofs.YtjobghphjkeohaaDoor
open Go Go.RowKit

theorem Tryd.info5' : (Tryd.prog.info? 5).map (fun i => (i.zero, i.size, i.bytes)) = some (some (.int .u8 0), 1, 1) := by kernel_rfl
theorem Tryd.info38' : (Tryd.prog.info? 54).map (fun i => (i.zero, i.size, i.bytes)) = some (some (.int .u64 0), 1, 8) := by kernel_rfl
theorem Tryd.info3' : (Tryd.prog.info? 3).map (fun i => (i.zero, i.size, i.bytes)) = some (some (.int .i64 0), 1, 8) := by kernel_rfl
theorem elemB : ∃ i, Elem Tryd.prog 55 5 i (.int .u8 0) 1 := by
  obtain ⟨i, hi, h0, h1, h2⟩ := info_parts Tryd.info5'
  exact ⟨i, Tryd.underlying55, hi, h0, h1, h2, rfl, by omega⟩
theorem elemI : ∃ i, Elem Tryd.prog 51 3 i (.int .i64 0) 8 := by
  obtain ⟨i, hi, h0, h1, h2⟩ := info_parts Tryd.info3'
  exact ⟨i, Tryd.underlying51, hi, h0, h1, h2, rfl, by omega⟩

/-- Bytes as cells. -/
def bytesV (l : List UInt8) : List Value := l.map fun c => Value.int .u8 (c.toNat : Int)
theorem bytesV_len (l : List UInt8) : (bytesV l).length = l.length := by simp [bytesV]
theorem bytesV_app (l m : List UInt8) : bytesV (l ++ m) = bytesV l ++ bytesV m := by simp [bytesV]
theorem bytesV_one (l : List UInt8) : ∀ u ∈ bytesV l, u.oneCell' = true := by
  intro u hu
  simp only [bytesV, List.mem_map] at hu
  obtain ⟨c, _, rfl⟩ := hu
  rfl

/-- A text turned into bytes. -/
theorem conv_in {ops : Array Oper} {rest : List Oper} {a : Act} {w : World} {Q : Exit → Act → World → Prop} {tt : TypeId} {pos : String} {af : Array Edge} {x : Operand} {d : Tmp} (s : ByteArray) (hx : a.eval x = .string s)
    (h : ∀ cap w', BR w' w.heap.size 5 w.heap.size s.size cap (bytesV s.data.toList) → w.grownBy w' none → w'.heap.size = w.heap.size + 1 → wpList Tryd.prog ops Q rest (a.put (some d) (.slice (some ⟨w.heap.size, 0, none⟩) s.size cap)) w') :
    wpList Tryd.prog ops Q (⟨some d, .convert 9 55 x, tt, pos, af, none⟩ :: rest) a w := by
  refine wpList_plain rfl fun K hK => ?_
  unfold Oper.wp execOp
  simp only [hx, Sem.run_bind, run_bytes_of_string w 9 55 5 s Tryd.underlying9 Tryd.underlying55 Tryd.underlying5, Result.andThen_ok, Sem.run_pure]
  refine hK _ _ (h _ _ ⟨by rw [bytesV_len]; rfl, Nat.le_refl _, grownCap_ge _ _ _ _, ?_⟩ ?_ ?_)
  · refine ⟨_, _, heap_alloc_new _ _, ?_, ?_, ?_⟩
    · have := grownCap_ge w s.size 0 5
      have e : s.data.size = s.size := rfl
      simp [bytesRow]; omega
    · have e : s.data.size = s.size := rfl
      simp only [bytesRow, Array.toList_append, Array.toList_map]
      rw [List.take_append_of_le_length (by simp [e]), List.take_of_length_le (by simp [e])]
      rfl
    · right
      have := grownCap_ge w s.size 0 5
      have e : s.data.size = s.size := rfl
      simp [bytesRow]; omega
  · exact ⟨rfl, rfl, rfl, by simp, fun k hk _ => Below.heap_alloc w.drew _ k hk⟩
  · simp
/-- Bytes turned into a text. -/
theorem conv_out {ops : Array Oper} {rest : List Oper} {a : Act} {w : World} {Q : Exit → Act → World → Prop} {tt : TypeId} {pos : String} {af : Array Edge} {x : Operand} {d : Tmp} {base : Nat} (g n cap : Nat) (l : List UInt8) (hx : a.eval x = .slice (some ⟨g, 0, none⟩) n cap)
    (hr : BR w base 5 g n cap (bytesV l)) (h : wpList Tryd.prog ops Q rest (a.put (some d) (.string ⟨l.toArray⟩)) w) :
    wpList Tryd.prog ops Q (⟨some d, .convert 55 9 x, tt, pos, af, none⟩ :: rest) a w := by
  refine wpList_plain rfl fun K hK => ?_
  have hl : n = l.length := by rw [← hr.len, bytesV_len]
  subst hl
  have hrun := run_convert_bytes_back (P := Tryd.prog) w 55 9 5 ⟨g, 0, none⟩ cap l Tryd.underlying55 Tryd.underlying5 Tryd.underlying9 (fun j hj => by
    have hadd : (⟨g, 0, none⟩ : Addr).add j = ⟨g, j, none⟩ := by unfold Addr.add; split <;> simp_all
    rw [hadd, hr.cell j hj]
    simp [bytesV, hj])
  unfold Oper.wp execOp
  simp only [hx, Sem.run_bind, hrun, Result.andThen_ok, Sem.run_pure]
  exact hK _ _ h
end Go.Proofs.YtjobghphjkeohaaDoor

/- What the texts of the sums and of the stream share. -/
namespace Go.Proofs.YtjobghphjkeohaaDoor
open Go Go.RowKit
theorem ret_val {a b : Value} (h : a = b) : Ending.returned a = .returned b := by rw [h]

/-- A byte as a word. -/
def bw (c : UInt8) : BitVec 32 := BitVec.ofNat 32 c.toNat
theorem N_byte (c : UInt8) : ((c.toNat : Nat) : Int) % 4294967296 = N (bw c) := by
  have := c.toNat_lt
  unfold bw; rw [N_ofNat _ (by omega)]; omega
theorem N_shl24 (x : BitVec 32) : N x * (16777216 : Int) % (4294967296 : Int) = N (x <<< 24) := N_shlm x 24
theorem N_shl16 (x : BitVec 32) : N x * (65536 : Int) % (4294967296 : Int) = N (x <<< 16) := N_shlm x 16
theorem N_shl8 (x : BitVec 32) : N x * (256 : Int) % (4294967296 : Int) = N (x <<< 8) := N_shlm x 8
theorem bw_nat (c : UInt8) : (bw c).toNat = c.toNat := by
  have := c.toNat_lt
  unfold bw; rw [BitVec.toNat_ofNat]; omega
theorem nat4 (a b c d : Nat) (hb : b < 256) (hc : c < 256) (hd : d < 256) : a * 16777216 ||| b * 65536 ||| c * 256 ||| d = a * 16777216 + b * 65536 + c * 256 + d := by
  have e1 : a * 16777216 ||| b * 65536 = (a * 256 + b) <<< 16 := by
    have h := Nat.shiftLeft_add_eq_or_of_lt (a := a) (b := b) (i := 8) hb
    have h2 : (a <<< 8 ||| b) <<< 16 = a <<< 8 <<< 16 ||| b <<< 16 := Nat.shiftLeft_or_distrib
    rw [← h] at h2
    rw [Nat.shiftLeft_eq a 8, ← Nat.shiftLeft_eq a 8, ← Nat.shiftLeft_add] at h2
    rw [Nat.shiftLeft_eq a 24, Nat.shiftLeft_eq b 16, Nat.shiftLeft_eq a 8] at h2
    exact h2.symm
  have e2 : (a * 256 + b) <<< 16 ||| c * 256 = ((a * 256 + b) * 256 + c) <<< 8 := by
    have h := Nat.shiftLeft_add_eq_or_of_lt (a := a * 256 + b) (b := c) (i := 8) hc
    have h2 : ((a * 256 + b) <<< 8 ||| c) <<< 8 = (a * 256 + b) <<< 8 <<< 8 ||| c <<< 8 := Nat.shiftLeft_or_distrib
    rw [← h, ← Nat.shiftLeft_add, Nat.shiftLeft_eq (a * 256 + b) 8, Nat.shiftLeft_eq c 8] at h2
    exact h2.symm
  rw [e1, e2, ← Nat.shiftLeft_add_eq_or_of_lt (i := 8) hd, Nat.shiftLeft_eq]
  show ((a * 256 + b) * 256 + c) * 256 + d = _
  omega
theorem ext_at (s : ByteArray) (a b i : Nat) (h : i < (s.extract a b).size) : (s.extract a b)[i] = s.data.toList.getD (a + i) 0 := by
  have h2 : a + i < s.size := by rw [ByteArray.size_extract] at h; omega
  have h3 : a + i < s.data.size := h2
  rw [ByteArray.getElem_extract]
  show s.data[a + i] = _
  rw [List.getD_eq_getElem?_getD, Array.getElem?_toList, Array.getElem?_eq_getElem h3]; rfl
theorem br_one (w : World) (u : Nat) : BR (w.alloc (.cells #[.int .u8 ((u : Int) % 256)] 5)) w.heap.size 5 w.heap.size 1 1 (bytesV [UInt8.ofNat u]) :=
  ⟨rfl, Nat.le_refl _, Nat.le_refl _, _, _, heap_alloc_new w _, rfl, by simp [bytesV], .inl (Nat.le_refl _)⟩
theorem one_u8 (n : Int) : ∀ u ∈ [Value.int .u8 n], u.oneCell' = true := by
  intro u hu; simp at hu; subst hu; rfl
theorem bytes_app (a b : Array UInt8) : (⟨a⟩ : ByteArray) ++ ⟨b⟩ = ⟨a ++ b⟩ := by
  apply ByteArray.ext
  rw [ByteArray.data_append]
theorem byte_at (s : ByteArray) (k : Nat) (h : k < s.size) (w : World) : (Instr.index 9 (.string s) (.int .i64 (k : Int))).run Tryd.prog w = .ok (.int .u8 ((s[k].toNat : Nat) : Int)) w := by
  rw [run_index_string w 9 s .i64 k Tryd.underlying9]
  simp [h]
theorem byte_get (s : ByteArray) (k : Nat) (h : k < s.size) (w : World) : (Instr.index 9 (.string s) (.int .i64 (k : Int))).run Tryd.prog w = .ok (.int .u8 (((s.data.toList.getD k 0).toNat : Nat) : Int)) w := by
  rw [run_index_string w 9 s .i64 k Tryd.underlying9]
  have h2 : k < s.data.size := h
  have e : s[k] = s.data.toList.getD k 0 := by
    rw [List.getD_eq_getElem?_getD, Array.getElem?_toList, Array.getElem?_eq_getElem h2]; rfl
  simp [h, e]
end Go.Proofs.YtjobghphjkeohaaDoor

/- What turning a word comes to: the program's own 'right' and the document's 'rot', at the ten counts that they are called with. -/
namespace Go.Proofs.YtjobghphjkeohaaDoor
open Go.RowKit
set_option maxHeartbeats 400000 in
theorem right_2 (x : BitVec 32) (w : World) :
    Calls Tryd.prog 62 #[.int .u32 (N x), .int .i64 2] w fun e w' => e = .returned (.int .u32 (N (rr x 2))) ∧ w' = w := by
  have hb : bits .and .u64 (IntKind.u64.wrap (-2)) 31 = 30 := by decide +kernel
  have r0 : (N x * (1073741824 : Int) % (4294967296 : Int)) = N (x <<< 30) := N_shlm x 30
  have r1 : (N x / (4 : Int)) = N (x >>> 2) := N_shr x 2
  have r2 := N_or
  go_enter Tryd.func62, Tryd.ntmps62
  go_wp2
  go_ret
  exact ⟨ret_val (by show Value.int .u32 (N (x <<< 30 ||| x >>> 2)) = _; rfl), rfl⟩

set_option maxHeartbeats 400000 in
theorem right_6 (x : BitVec 32) (w : World) :
    Calls Tryd.prog 62 #[.int .u32 (N x), .int .i64 6] w fun e w' => e = .returned (.int .u32 (N (rr x 6))) ∧ w' = w := by
  have hb : bits .and .u64 (IntKind.u64.wrap (-6)) 31 = 26 := by decide +kernel
  have r0 : (N x * (67108864 : Int) % (4294967296 : Int)) = N (x <<< 26) := N_shlm x 26
  have r1 : (N x / (64 : Int)) = N (x >>> 6) := N_shr x 6
  have r2 := N_or
  go_enter Tryd.func62, Tryd.ntmps62
  go_wp2
  go_ret
  exact ⟨ret_val (by show Value.int .u32 (N (x <<< 26 ||| x >>> 6)) = _; rfl), rfl⟩

set_option maxHeartbeats 400000 in
theorem right_7 (x : BitVec 32) (w : World) :
    Calls Tryd.prog 62 #[.int .u32 (N x), .int .i64 7] w fun e w' => e = .returned (.int .u32 (N (rr x 7))) ∧ w' = w := by
  have hb : bits .and .u64 (IntKind.u64.wrap (-7)) 31 = 25 := by decide +kernel
  have r0 : (N x * (33554432 : Int) % (4294967296 : Int)) = N (x <<< 25) := N_shlm x 25
  have r1 : (N x / (128 : Int)) = N (x >>> 7) := N_shr x 7
  have r2 := N_or
  go_enter Tryd.func62, Tryd.ntmps62
  go_wp2
  go_ret
  exact ⟨ret_val (by show Value.int .u32 (N (x <<< 25 ||| x >>> 7)) = _; rfl), rfl⟩

set_option maxHeartbeats 400000 in
theorem right_11 (x : BitVec 32) (w : World) :
    Calls Tryd.prog 62 #[.int .u32 (N x), .int .i64 11] w fun e w' => e = .returned (.int .u32 (N (rr x 11))) ∧ w' = w := by
  have hb : bits .and .u64 (IntKind.u64.wrap (-11)) 31 = 21 := by decide +kernel
  have r0 : (N x * (2097152 : Int) % (4294967296 : Int)) = N (x <<< 21) := N_shlm x 21
  have r1 : (N x / (2048 : Int)) = N (x >>> 11) := N_shr x 11
  have r2 := N_or
  go_enter Tryd.func62, Tryd.ntmps62
  go_wp2
  go_ret
  exact ⟨ret_val (by show Value.int .u32 (N (x <<< 21 ||| x >>> 11)) = _; rfl), rfl⟩

set_option maxHeartbeats 400000 in
theorem right_13 (x : BitVec 32) (w : World) :
    Calls Tryd.prog 62 #[.int .u32 (N x), .int .i64 13] w fun e w' => e = .returned (.int .u32 (N (rr x 13))) ∧ w' = w := by
  have hb : bits .and .u64 (IntKind.u64.wrap (-13)) 31 = 19 := by decide +kernel
  have r0 : (N x * (524288 : Int) % (4294967296 : Int)) = N (x <<< 19) := N_shlm x 19
  have r1 : (N x / (8192 : Int)) = N (x >>> 13) := N_shr x 13
  have r2 := N_or
  go_enter Tryd.func62, Tryd.ntmps62
  go_wp2
  go_ret
  exact ⟨ret_val (by show Value.int .u32 (N (x <<< 19 ||| x >>> 13)) = _; rfl), rfl⟩

set_option maxHeartbeats 400000 in
theorem right_17 (x : BitVec 32) (w : World) :
    Calls Tryd.prog 62 #[.int .u32 (N x), .int .i64 17] w fun e w' => e = .returned (.int .u32 (N (rr x 17))) ∧ w' = w := by
  have hb : bits .and .u64 (IntKind.u64.wrap (-17)) 31 = 15 := by decide +kernel
  have r0 : (N x * (32768 : Int) % (4294967296 : Int)) = N (x <<< 15) := N_shlm x 15
  have r1 : (N x / (131072 : Int)) = N (x >>> 17) := N_shr x 17
  have r2 := N_or
  go_enter Tryd.func62, Tryd.ntmps62
  go_wp2
  go_ret
  exact ⟨ret_val (by show Value.int .u32 (N (x <<< 15 ||| x >>> 17)) = _; rfl), rfl⟩

set_option maxHeartbeats 400000 in
theorem right_18 (x : BitVec 32) (w : World) :
    Calls Tryd.prog 62 #[.int .u32 (N x), .int .i64 18] w fun e w' => e = .returned (.int .u32 (N (rr x 18))) ∧ w' = w := by
  have hb : bits .and .u64 (IntKind.u64.wrap (-18)) 31 = 14 := by decide +kernel
  have r0 : (N x * (16384 : Int) % (4294967296 : Int)) = N (x <<< 14) := N_shlm x 14
  have r1 : (N x / (262144 : Int)) = N (x >>> 18) := N_shr x 18
  have r2 := N_or
  go_enter Tryd.func62, Tryd.ntmps62
  go_wp2
  go_ret
  exact ⟨ret_val (by show Value.int .u32 (N (x <<< 14 ||| x >>> 18)) = _; rfl), rfl⟩

set_option maxHeartbeats 400000 in
theorem right_19 (x : BitVec 32) (w : World) :
    Calls Tryd.prog 62 #[.int .u32 (N x), .int .i64 19] w fun e w' => e = .returned (.int .u32 (N (rr x 19))) ∧ w' = w := by
  have hb : bits .and .u64 (IntKind.u64.wrap (-19)) 31 = 13 := by decide +kernel
  have r0 : (N x * (8192 : Int) % (4294967296 : Int)) = N (x <<< 13) := N_shlm x 13
  have r1 : (N x / (524288 : Int)) = N (x >>> 19) := N_shr x 19
  have r2 := N_or
  go_enter Tryd.func62, Tryd.ntmps62
  go_wp2
  go_ret
  exact ⟨ret_val (by show Value.int .u32 (N (x <<< 13 ||| x >>> 19)) = _; rfl), rfl⟩

set_option maxHeartbeats 400000 in
theorem right_22 (x : BitVec 32) (w : World) :
    Calls Tryd.prog 62 #[.int .u32 (N x), .int .i64 22] w fun e w' => e = .returned (.int .u32 (N (rr x 22))) ∧ w' = w := by
  have hb : bits .and .u64 (IntKind.u64.wrap (-22)) 31 = 10 := by decide +kernel
  have r0 : (N x * (1024 : Int) % (4294967296 : Int)) = N (x <<< 10) := N_shlm x 10
  have r1 : (N x / (4194304 : Int)) = N (x >>> 22) := N_shr x 22
  have r2 := N_or
  go_enter Tryd.func62, Tryd.ntmps62
  go_wp2
  go_ret
  exact ⟨ret_val (by show Value.int .u32 (N (x <<< 10 ||| x >>> 22)) = _; rfl), rfl⟩

set_option maxHeartbeats 400000 in
theorem right_25 (x : BitVec 32) (w : World) :
    Calls Tryd.prog 62 #[.int .u32 (N x), .int .i64 25] w fun e w' => e = .returned (.int .u32 (N (rr x 25))) ∧ w' = w := by
  have hb : bits .and .u64 (IntKind.u64.wrap (-25)) 31 = 7 := by decide +kernel
  have r0 : (N x * (128 : Int) % (4294967296 : Int)) = N (x <<< 7) := N_shlm x 7
  have r1 : (N x / (33554432 : Int)) = N (x >>> 25) := N_shr x 25
  have r2 := N_or
  go_enter Tryd.func62, Tryd.ntmps62
  go_wp2
  go_ret
  exact ⟨ret_val (by show Value.int .u32 (N (x <<< 7 ||| x >>> 25)) = _; rfl), rfl⟩

def turns (k : Int) : Bool := [2, 6, 7, 11, 13, 17, 18, 19, 22, 25].contains k
theorem turns_cases {k : Int} (h : turns k = true) : k = 2 ∨ k = 6 ∨ k = 7 ∨ k = 11 ∨ k = 13 ∨ k = 17 ∨ k = 18 ∨ k = 19 ∨ k = 22 ∨ k = 25 := by
  simpa [turns] using h
theorem right_any (x : BitVec 32) (k : Int) (w : World) (h : turns k = true) :
    Calls Tryd.prog 62 #[.int .u32 (N x), .int .i64 k] w fun e w' => e = .returned (.int .u32 (N (rr x k.toNat))) ∧ w' = w := by
  rcases turns_cases h with rfl | rfl | rfl | rfl | rfl | rfl | rfl | rfl | rfl | rfl
  · exact right_2 x w
  · exact right_6 x w
  · exact right_7 x w
  · exact right_11 x w
  · exact right_13 x w
  · exact right_17 x w
  · exact right_18 x w
  · exact right_19 x w
  · exact right_22 x w
  · exact right_25 x w
end Go.Proofs.YtjobghphjkeohaaDoor
