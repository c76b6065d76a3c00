/- Texts of this proof, one behind the other. -/
import Derived.WalkKit
import Derived.WalkSpells
import Derived.WalkLawsBesides
import Derived.Deep.QuietTactic
import Derived.BigQuiet
import Derived.Test.YtkbaalenbpgheaaGreatDoorPart2
/- What turning a word comes to: the program's own 'right' and the document's 'rot', at the ten counts that they are called with. -/
namespace Go.Proofs.YtkbaalenbpgheaaGreatDoor
open Go.RowKit
set_option maxHeartbeats 400000 in
theorem right_2 (x : BitVec 32) (w : World) :
    Calls Tryz.prog 201 #[.int .u32 (N x), .int .i64 2] w fun e w' => e = .returned (.int .u32 (N (rr x 2))) ∧ w' = w := by
  have hb : bits .and .u64 (IntKind.u64.wrap (-2)) 31 = 30 := by decide +kernel
  have r0 : (N x * (1073741824 : Int) % (4294967296 : Int)) = N (x <<< 30) := N_shlm x 30
  have r1 : (N x / (4 : Int)) = N (x >>> 2) := N_shr x 2
  have r2 := N_or
  go_enter Tryz.func201, Tryz.ntmps201
  go_wp2
  go_ret
  exact ⟨ret_val (by show Value.int .u32 (N (x <<< 30 ||| x >>> 2)) = _; rfl), rfl⟩

set_option maxHeartbeats 400000 in
theorem right_6 (x : BitVec 32) (w : World) :
    Calls Tryz.prog 201 #[.int .u32 (N x), .int .i64 6] w fun e w' => e = .returned (.int .u32 (N (rr x 6))) ∧ w' = w := by
  have hb : bits .and .u64 (IntKind.u64.wrap (-6)) 31 = 26 := by decide +kernel
  have r0 : (N x * (67108864 : Int) % (4294967296 : Int)) = N (x <<< 26) := N_shlm x 26
  have r1 : (N x / (64 : Int)) = N (x >>> 6) := N_shr x 6
  have r2 := N_or
  go_enter Tryz.func201, Tryz.ntmps201
  go_wp2
  go_ret
  exact ⟨ret_val (by show Value.int .u32 (N (x <<< 26 ||| x >>> 6)) = _; rfl), rfl⟩

set_option maxHeartbeats 400000 in
theorem right_7 (x : BitVec 32) (w : World) :
    Calls Tryz.prog 201 #[.int .u32 (N x), .int .i64 7] w fun e w' => e = .returned (.int .u32 (N (rr x 7))) ∧ w' = w := by
  have hb : bits .and .u64 (IntKind.u64.wrap (-7)) 31 = 25 := by decide +kernel
  have r0 : (N x * (33554432 : Int) % (4294967296 : Int)) = N (x <<< 25) := N_shlm x 25
  have r1 : (N x / (128 : Int)) = N (x >>> 7) := N_shr x 7
  have r2 := N_or
  go_enter Tryz.func201, Tryz.ntmps201
  go_wp2
  go_ret
  exact ⟨ret_val (by show Value.int .u32 (N (x <<< 25 ||| x >>> 7)) = _; rfl), rfl⟩

set_option maxHeartbeats 400000 in
theorem right_11 (x : BitVec 32) (w : World) :
    Calls Tryz.prog 201 #[.int .u32 (N x), .int .i64 11] w fun e w' => e = .returned (.int .u32 (N (rr x 11))) ∧ w' = w := by
  have hb : bits .and .u64 (IntKind.u64.wrap (-11)) 31 = 21 := by decide +kernel
  have r0 : (N x * (2097152 : Int) % (4294967296 : Int)) = N (x <<< 21) := N_shlm x 21
  have r1 : (N x / (2048 : Int)) = N (x >>> 11) := N_shr x 11
  have r2 := N_or
  go_enter Tryz.func201, Tryz.ntmps201
  go_wp2
  go_ret
  exact ⟨ret_val (by show Value.int .u32 (N (x <<< 21 ||| x >>> 11)) = _; rfl), rfl⟩

set_option maxHeartbeats 400000 in
theorem right_13 (x : BitVec 32) (w : World) :
    Calls Tryz.prog 201 #[.int .u32 (N x), .int .i64 13] w fun e w' => e = .returned (.int .u32 (N (rr x 13))) ∧ w' = w := by
  have hb : bits .and .u64 (IntKind.u64.wrap (-13)) 31 = 19 := by decide +kernel
  have r0 : (N x * (524288 : Int) % (4294967296 : Int)) = N (x <<< 19) := N_shlm x 19
  have r1 : (N x / (8192 : Int)) = N (x >>> 13) := N_shr x 13
  have r2 := N_or
  go_enter Tryz.func201, Tryz.ntmps201
  go_wp2
  go_ret
  exact ⟨ret_val (by show Value.int .u32 (N (x <<< 19 ||| x >>> 13)) = _; rfl), rfl⟩

set_option maxHeartbeats 400000 in
theorem right_17 (x : BitVec 32) (w : World) :
    Calls Tryz.prog 201 #[.int .u32 (N x), .int .i64 17] w fun e w' => e = .returned (.int .u32 (N (rr x 17))) ∧ w' = w := by
  have hb : bits .and .u64 (IntKind.u64.wrap (-17)) 31 = 15 := by decide +kernel
  have r0 : (N x * (32768 : Int) % (4294967296 : Int)) = N (x <<< 15) := N_shlm x 15
  have r1 : (N x / (131072 : Int)) = N (x >>> 17) := N_shr x 17
  have r2 := N_or
  go_enter Tryz.func201, Tryz.ntmps201
  go_wp2
  go_ret
  exact ⟨ret_val (by show Value.int .u32 (N (x <<< 15 ||| x >>> 17)) = _; rfl), rfl⟩

set_option maxHeartbeats 400000 in
theorem right_18 (x : BitVec 32) (w : World) :
    Calls Tryz.prog 201 #[.int .u32 (N x), .int .i64 18] w fun e w' => e = .returned (.int .u32 (N (rr x 18))) ∧ w' = w := by
  have hb : bits .and .u64 (IntKind.u64.wrap (-18)) 31 = 14 := by decide +kernel
  have r0 : (N x * (16384 : Int) % (4294967296 : Int)) = N (x <<< 14) := N_shlm x 14
  have r1 : (N x / (262144 : Int)) = N (x >>> 18) := N_shr x 18
  have r2 := N_or
  go_enter Tryz.func201, Tryz.ntmps201
  go_wp2
  go_ret
  exact ⟨ret_val (by show Value.int .u32 (N (x <<< 14 ||| x >>> 18)) = _; rfl), rfl⟩

set_option maxHeartbeats 400000 in
theorem right_19 (x : BitVec 32) (w : World) :
    Calls Tryz.prog 201 #[.int .u32 (N x), .int .i64 19] w fun e w' => e = .returned (.int .u32 (N (rr x 19))) ∧ w' = w := by
  have hb : bits .and .u64 (IntKind.u64.wrap (-19)) 31 = 13 := by decide +kernel
  have r0 : (N x * (8192 : Int) % (4294967296 : Int)) = N (x <<< 13) := N_shlm x 13
  have r1 : (N x / (524288 : Int)) = N (x >>> 19) := N_shr x 19
  have r2 := N_or
  go_enter Tryz.func201, Tryz.ntmps201
  go_wp2
  go_ret
  exact ⟨ret_val (by show Value.int .u32 (N (x <<< 13 ||| x >>> 19)) = _; rfl), rfl⟩

set_option maxHeartbeats 400000 in
theorem right_22 (x : BitVec 32) (w : World) :
    Calls Tryz.prog 201 #[.int .u32 (N x), .int .i64 22] w fun e w' => e = .returned (.int .u32 (N (rr x 22))) ∧ w' = w := by
  have hb : bits .and .u64 (IntKind.u64.wrap (-22)) 31 = 10 := by decide +kernel
  have r0 : (N x * (1024 : Int) % (4294967296 : Int)) = N (x <<< 10) := N_shlm x 10
  have r1 : (N x / (4194304 : Int)) = N (x >>> 22) := N_shr x 22
  have r2 := N_or
  go_enter Tryz.func201, Tryz.ntmps201
  go_wp2
  go_ret
  exact ⟨ret_val (by show Value.int .u32 (N (x <<< 10 ||| x >>> 22)) = _; rfl), rfl⟩

set_option maxHeartbeats 400000 in
theorem right_25 (x : BitVec 32) (w : World) :
    Calls Tryz.prog 201 #[.int .u32 (N x), .int .i64 25] w fun e w' => e = .returned (.int .u32 (N (rr x 25))) ∧ w' = w := by
  have hb : bits .and .u64 (IntKind.u64.wrap (-25)) 31 = 7 := by decide +kernel
  have r0 : (N x * (128 : Int) % (4294967296 : Int)) = N (x <<< 7) := N_shlm x 7
  have r1 : (N x / (33554432 : Int)) = N (x >>> 25) := N_shr x 25
  have r2 := N_or
  go_enter Tryz.func201, Tryz.ntmps201
  go_wp2
  go_ret
  exact ⟨ret_val (by show Value.int .u32 (N (x <<< 7 ||| x >>> 25)) = _; rfl), rfl⟩

def turns (k : Int) : Bool := [2, 6, 7, 11, 13, 17, 18, 19, 22, 25].contains k
theorem turns_cases {k : Int} (h : turns k = true) : k = 2 ∨ k = 6 ∨ k = 7 ∨ k = 11 ∨ k = 13 ∨ k = 17 ∨ k = 18 ∨ k = 19 ∨ k = 22 ∨ k = 25 := by
  simpa [turns] using h
theorem right_any (x : BitVec 32) (k : Int) (w : World) (h : turns k = true) :
    Calls Tryz.prog 201 #[.int .u32 (N x), .int .i64 k] w fun e w' => e = .returned (.int .u32 (N (rr x k.toNat))) ∧ w' = w := by
  rcases turns_cases h with rfl | rfl | rfl | rfl | rfl | rfl | rfl | rfl | rfl | rfl
  · exact right_2 x w
  · exact right_6 x w
  · exact right_7 x w
  · exact right_11 x w
  · exact right_13 x w
  · exact right_17 x w
  · exact right_18 x w
  · exact right_19 x w
  · exact right_22 x w
  · exact right_25 x w
end Go.Proofs.YtkbaalenbpgheaaGreatDoor

/- The sum as plain mathematics of words: the schedule of a block, one turn, the mixing of a block. -/
namespace Go.Proofs.YtkbaalenbpgheaaGreatDoor
open Go

/-- Eight words. -/
structure St where
  a : BitVec 32
  b : BitVec 32
  c : BitVec 32
  d : BitVec 32
  e : BitVec 32
  f : BitVec 32
  g : BitVec 32
  h : BitVec 32

def tA (s : St) (m : BitVec 32) : BitVec 32 := s.h + (rr s.e 6 ^^^ rr s.e 11 ^^^ rr s.e 25) + (s.e &&& s.f ^^^ ~~~s.e &&& s.g) + m
def tB (s : St) : BitVec 32 := (rr s.a 2 ^^^ rr s.a 13 ^^^ rr s.a 22) + (s.a &&& s.b ^^^ s.a &&& s.c ^^^ s.b &&& s.c)
/-- One turn. -/
def step (s : St) (m : BitVec 32) : St := ⟨tA s m + tB s, s.a, s.b, s.c, s.d + tA s m, s.e, s.f, s.g⟩
def St.add (s t : St) : St := ⟨s.a + t.a, s.b + t.b, s.c + t.c, s.d + t.d, s.e + t.e, s.f + t.f, s.g + t.g, s.h + t.h⟩

theorem N_shr3 (x : BitVec 32) : N x / (8 : Int) = N (x >>> 3) := N_shr x 3
theorem N_shr10 (x : BitVec 32) : N x / (1024 : Int) = N (x >>> 10) := N_shr x 10
/-- Four bytes as a word, the greatest first. -/
def word4 (p q r s : UInt8) : BitVec 32 := bw p <<< 24 ||| bw q <<< 16 ||| bw r <<< 8 ||| bw s
/-- The k-th word of a text. -/
def wordAt (l : List UInt8) (k : Nat) : BitVec 32 := word4 (l.getD (4 * k) 0) (l.getD (4 * k + 1) 0) (l.getD (4 * k + 2) 0) (l.getD (4 * k + 3) 0)
/-- The first k words of a block, the others nought. -/
def sch0 (l : List UInt8) (k : Nat) : List (BitVec 32) := (List.range k).map (wordAt l) ++ List.replicate (64 - k) 0
/-- A later word of the schedule. -/
def nxt (L : List (BitVec 32)) (k : Nat) : BitVec 32 :=
  wd L k + wd L (k + 9) + (rr (wd L (k + 1)) 7 ^^^ rr (wd L (k + 1)) 18 ^^^ (wd L (k + 1)) >>> 3) + (rr (wd L (k + 14)) 17 ^^^ rr (wd L (k + 14)) 19 ^^^ (wd L (k + 14)) >>> 10)
def schT (l : List UInt8) : Nat → List (BitVec 32)
  | 0 => sch0 l 16
  | k + 1 => (schT l k).set (k + 16) (nxt (schT l k) k)
/-- The schedule of a block. -/
def sched (l : List UInt8) : List (BitVec 32) := schT l 48
theorem sch0_len (l : List UInt8) (k : Nat) (h : k ≤ 64) : (sch0 l k).length = 64 := by simp [sch0]; omega
theorem schT_len (l : List UInt8) (k : Nat) : (schT l k).length = 64 := by
  induction k with
  | zero => exact sch0_len l 16 (by omega)
  | succ k ih => simp [schT, ih]
theorem sched_len (l : List UInt8) : (sched l).length = 64 := schT_len l 48
theorem sch0_succ (l : List UInt8) (k : Nat) (h : k < 64) : (sch0 l k).set k (wordAt l k) = sch0 l (k + 1) := by
  unfold sch0
  rw [List.set_append_right _ _ (by simp)]
  have e : 64 - k = (64 - (k + 1)) + 1 := by omega
  rw [e, List.replicate_succ, List.range_succ]
  simp

/-- The eight words in their order. -/
def St.l (s : St) : List (BitVec 32) := [s.a, s.b, s.c, s.d, s.e, s.f, s.g, s.h]
/-- The numbers of the turns. -/
def kNat : List Nat := [1116352408, 1899447441, 3049323471, 3921009573, 961987163, 1508970993, 2453635748, 2870763221, 3624381080, 310598401, 607225278, 1426881987, 1925078388, 2162078206, 2614888103, 3248222580, 3835390401, 4022224774, 264347078, 604807628, 770255983, 1249150122, 1555081692, 1996064986, 2554220882, 2821834349, 2952996808, 3210313671, 3336571891, 3584528711, 113926993, 338241895, 666307205, 773529912, 1294757372, 1396182291, 1695183700, 1986661051, 2177026350, 2456956037, 2730485921, 2820302411, 3259730800, 3345764771, 3516065817, 3600352804, 4094571909, 275423344, 430227734, 506948616, 659060556, 883997877, 958139571, 1322822218, 1537002063, 1747873779, 1955562222, 2024104815, 2227730452, 2361852424, 2428436474, 2756734187, 3204031479, 3329325298]
def kTab : List (BitVec 32) := kNat.map (BitVec.ofNat 32)
theorem kTab_len : kTab.length = 64 := rfl
/-- The state behind k turns. -/
def turnTo (L : List (BitVec 32)) (v : St) : Nat → St
  | 0 => v
  | k + 1 => step (turnTo L v k) (wd L k + wd kTab k)
/-- Words added place by place, the first k of them. -/
def addTo (x y : List (BitVec 32)) : Nat → List (BitVec 32)
  | 0 => x
  | k + 1 => (addTo x y k).set k (wd (addTo x y k) k + wd y k)
theorem addTo_len (x y : List (BitVec 32)) (k : Nat) : (addTo x y k).length = x.length := by
  induction k with
  | zero => rfl
  | succ k ih => simp [addTo, ih]
theorem addTo_eight (s t : St) : addTo s.l t.l 8 = (s.add t).l := rfl
/-- A block mixed into a state. -/
def mixB (s : St) (l : List UInt8) : St := s.add (turnTo (sched l) s 64)
end Go.Proofs.YtkbaalenbpgheaaGreatDoor

/- One turn of the program's own mixing: what 'round' comes to, for every state and word. -/
namespace Go.Proofs.YtkbaalenbpgheaaGreatDoor
open Go.RowKit
attribute [local go_sem] N_xor N_and N_addm N_add3 N_add4 N_add12 N_add13 N_not

/-- Eight words as a value. -/
def St.v (s : St) : Value := .agg #[.int .u32 (N s.a), .int .u32 (N s.b), .int .u32 (N s.c), .int .u32 (N s.d), .int .u32 (N s.e), .int .u32 (N s.f), .int .u32 (N s.g), .int .u32 (N s.h)]

set_option maxRecDepth 100000 in
set_option maxHeartbeats 400000 in
theorem round_any (s : St) (m : BitVec 32) (w : World) :
    Calls Tryz.prog 193 #[s.v, .int .u32 (N m)] w fun e w' => e = .returned (step s m).v ∧ Below w.heap.size w w' := by
  obtain ⟨a, b, c, d, x, f, g, y⟩ := s
  unfold St.v
  go_enter Tryz.func193, Tryz.ntmps193
  go_wp2
  go_quiet (fail)
  go_wp2
  go_quiet (fail)
  go_wp2_with (go_at_call 201; refine (right_any _ _ _ (by decide)).mono ?_; rintro e w' ⟨rfl, rfl⟩)
  refine bodyPost_ret (v := (step ⟨a, b, c, d, x, f, g, y⟩ m).v) (by simp [results, Tryz.results193, go_sem, St.v, step, tA, tB]) rfl ⟨rfl, ?_⟩
  iterate 8 refine Below.setCell ?_ (by simp) _
  exact below_drewN (((Below.refl _ _).alloc (Nat.le_refl _) _).alloc (by simp) _) _
theorem v_row (s : St) : s.v = .agg #[.int .u32 (N s.a), .int .u32 (N s.b), .int .u32 (N s.c), .int .u32 (N s.d), .int .u32 (N s.e), .int .u32 (N s.f), .int .u32 (N s.g), .int .u32 (N s.h)] := rfl
end Go.Proofs.YtkbaalenbpgheaaGreatDoor
