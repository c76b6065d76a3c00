/- Texts of this proof, one behind the other. -/
import Derived.Deep.DeepCutAuto
import Derived.Test.YtjobghphjkeohaaDoorPart11
/- The document's first: the texts that are too short for a record. -/
namespace Go.Proofs.YtjobghphjkeohaaDoor
open Go.RowKit
attribute [local go_sem ↓] Go.wp_at_zero Go.wp_at_succ
theorem tx_byte (l : List UInt8) (k : Nat) (h : k < l.length) (w : World) : (Instr.index 9 (.string (tx l)) (.int .i64 (k : Int))).run Tryd.prog w = .ok (.int .u8 (((l.getD k 0).toNat : Nat) : Int)) w := byte_get (tx l) k h w
/-- A block of five cells that hold nothing yet: what a walk asks of it. -/
theorem HasR.rec0 {w : World} {B : Nat} (h : HasR w B 23 #[.int .i64 0, .string ⟨#[]⟩, .int .i64 0, .string ⟨#[]⟩, .string ⟨#[]⟩]) :
    (w.cell? ⟨B, 0, none⟩ = some (.int .i64 0) ∧ w.cell? ⟨B, 1, none⟩ = some (.string ⟨#[]⟩) ∧ w.cell? ⟨B, 2, none⟩ = some (.int .i64 0) ∧ w.cell? ⟨B, 3, none⟩ = some (.string ⟨#[]⟩) ∧ w.cell? ⟨B, 4, none⟩ = some (.string ⟨#[]⟩)) ∧
    w.frozen? ⟨B, 0, none⟩ = false ∧ w.frozen? ⟨B, 1, none⟩ = false ∧ w.frozen? ⟨B, 2, none⟩ = false ∧ w.frozen? ⟨B, 3, none⟩ = false ∧ w.frozen? ⟨B, 4, none⟩ = false :=
  ⟨⟨h.cell 0, h.cell 1, h.cell 2, h.cell 3, h.cell 4⟩, h.free 0, h.free 1, h.free 2, h.free 3, h.free 4⟩
set_option maxRecDepth 100000 in
set_option maxHeartbeats 1000000 in
theorem refFirst_far1 (b : Nat) (l : List UInt8) (w : World) (h : l.length < 18) :
    Calls Tryd.prog 26 #[.pointer (some ⟨b, 0, none⟩), .string (tx l)] w fun x w' => x = .returned (firstV l) ∧ Below w.heap.size w w' := by
  rw [firstV_none (first_far1 h)]
  have X0 := hide (HasR.new w 23 #[.int .i64 0, .string ⟨#[]⟩, .int .i64 0, .string ⟨#[]⟩, .string ⟨#[]⟩])
  have BL : Hid (Below w.heap.size w (w.alloc (.cells #[.int .i64 0, .string ⟨#[]⟩, .int .i64 0, .string ⟨#[]⟩, .string ⟨#[]⟩] 23))) := hide ((Below.refl _ w).alloc (Nat.le_refl _) _)
  have hsz : (tx l).size = l.length := rfl
  have t18 : (l.length : Int) < 18 := by omega
  go_enter Tryd.func26, Tryd.ntmps26
  go_upto_region 1 with fail
  generalize w.alloc (.cells #[.int .i64 0, .string ⟨#[]⟩, .int .i64 0, .string ⟨#[]⟩, .string ⟨#[]⟩] 23) = w3 at X0 BL ⊢
  obtain ⟨⟨t0, t1, t2, t3, t4⟩, u0, u1, u2, u3, u4⟩ := X0.out.rec0
  go_wp2
  have TF := stir5 w3 w.heap.size (.int .i64 0) (.string ⟨#[]⟩) (.int .i64 0) (.string ⟨#[]⟩) (.string ⟨#[]⟩)
  have X5 := HasR.five X0.out (.int .i64 0) (.string ⟨#[]⟩) (.int .i64 0) (.string ⟨#[]⟩) (.string ⟨#[]⟩)
  generalize ((((w3.setCell ⟨w.heap.size, 0, none⟩ (.int .i64 0)).setCell ⟨w.heap.size, 1, none⟩ (.string ⟨#[]⟩)).setCell ⟨w.heap.size, 2, none⟩ (.int .i64 0)).setCell ⟨w.heap.size, 3, none⟩ (.string ⟨#[]⟩)).setCell ⟨w.heap.size, 4, none⟩ (.string ⟨#[]⟩) = w4 at TF X5 ⊢
  obtain ⟨⟨z0, z1, z2, z3, z4⟩, _⟩ := X5.rec0
  refine bodyPost_ret (v := .tuple #[.agg #[.int .i64 0, .string ⟨#[]⟩, .int .i64 0, .string ⟨#[]⟩, .string ⟨#[]⟩], .int .i64 0]) (by simp [results, Tryd.results26, go_sem, z0, z1, z2, z3, z4]) rfl ⟨rfl, BL.out.trans (TF.below BL.out.size (fun j hj => by simp at hj; omega))⟩
set_option maxRecDepth 100000 in
set_option maxHeartbeats 1000000 in
theorem refFirst_far2 (b : Nat) (l : List UInt8) (w : World) (h18 : 18 ≤ l.length) (h : l.length < 37 + (l.getD 17 0).toNat) :
    Calls Tryd.prog 26 #[.pointer (some ⟨b, 0, none⟩), .string (tx l)] w fun x w' => x = .returned (firstV l) ∧ Below w.heap.size w w' := by
  rw [firstV_none (first_far2 h)]
  have X0 := hide (HasR.new w 23 #[.int .i64 0, .string ⟨#[]⟩, .int .i64 0, .string ⟨#[]⟩, .string ⟨#[]⟩])
  have BL : Hid (Below w.heap.size w (w.alloc (.cells #[.int .i64 0, .string ⟨#[]⟩, .int .i64 0, .string ⟨#[]⟩, .string ⟨#[]⟩] 23))) := hide ((Below.refl _ w).alloc (Nat.le_refl _) _)
  have hsz : (tx l).size = l.length := rfl
  have n17 := fun w => tx_byte l 17 (by omega) w
  have hb := byte_lt (l.getD 17 0)
  generalize (l.getD 17 0).toNat = n at n17 hb h
  have n17' : ∀ w : World, (Instr.index 9 (.string (tx l)) (.int .i64 17)).run Tryd.prog w = .ok (.int .u8 (n : Int)) w := n17
  have t18 : ¬ (l.length : Int) < 18 := by omega
  have tn : (l.length : Int) < 18 + (n : Int) + 19 := by omega
  clear n17
  go_enter Tryd.func26, Tryd.ntmps26
  go_upto_region 1 with fail
  generalize w.alloc (.cells #[.int .i64 0, .string ⟨#[]⟩, .int .i64 0, .string ⟨#[]⟩, .string ⟨#[]⟩] 23) = w3 at X0 BL ⊢
  obtain ⟨⟨t0, t1, t2, t3, t4⟩, u0, u1, u2, u3, u4⟩ := X0.out.rec0
  go_wp2
  have TF := stir5 w3 w.heap.size (.int .i64 0) (.string ⟨#[]⟩) (.int .i64 0) (.string ⟨#[]⟩) (.string ⟨#[]⟩)
  have X5 := HasR.five X0.out (.int .i64 0) (.string ⟨#[]⟩) (.int .i64 0) (.string ⟨#[]⟩) (.string ⟨#[]⟩)
  generalize ((((w3.setCell ⟨w.heap.size, 0, none⟩ (.int .i64 0)).setCell ⟨w.heap.size, 1, none⟩ (.string ⟨#[]⟩)).setCell ⟨w.heap.size, 2, none⟩ (.int .i64 0)).setCell ⟨w.heap.size, 3, none⟩ (.string ⟨#[]⟩)).setCell ⟨w.heap.size, 4, none⟩ (.string ⟨#[]⟩) = w4 at TF X5 ⊢
  obtain ⟨⟨z0, z1, z2, z3, z4⟩, _⟩ := X5.rec0
  refine bodyPost_ret (v := .tuple #[.agg #[.int .i64 0, .string ⟨#[]⟩, .int .i64 0, .string ⟨#[]⟩, .string ⟨#[]⟩], .int .i64 0]) (by simp [results, Tryd.results26, go_sem, z0, z1, z2, z3, z4]) rfl ⟨rfl, BL.out.trans (TF.below BL.out.size (fun j hj => by simp at hj; omega))⟩
end Go.Proofs.YtjobghphjkeohaaDoor

/- The document's first: a text whose body is cut off. -/
namespace Go.Proofs.YtjobghphjkeohaaDoor
open Go.RowKit
attribute [local go_sem ↓] Go.wp_at_zero Go.wp_at_succ
/-- What a walk of first asks of a text that reaches so far: the numbers that stand in it, and its pieces. -/
structure FirstAt (S : ByteArray) (n k k1 k17 k18 q g m1 m2 m256 m : Nat) (s p : ByteArray) : Prop where
  i17 : ∀ w : World, (Instr.index 9 (.string S) (.int .i64 17)).run Tryd.prog w = .ok (.int .u8 (n : Int)) w
  i16 : ∀ w : World, (Instr.index 9 (.string S) (.int .i64 16)).run Tryd.prog w = .ok (.int .u8 (q : Int)) w
  ik : ∀ w : World, (Instr.index 9 (.string S) (.int .i64 (k : Int))).run Tryd.prog w = .ok (.int .u8 (g : Int)) w
  ik17 : ∀ w : World, (Instr.index 9 (.string S) (.int .i64 (k17 : Int))).run Tryd.prog w = .ok (.int .u8 (m1 : Int)) w
  ik18 : ∀ w : World, (Instr.index 9 (.string S) (.int .i64 (k18 : Int))).run Tryd.prog w = .ok (.int .u8 (m2 : Int)) w
  c1 : ∀ w : World, (Instr.slice 9 (.string S) (some (.int .i64 18)) (some (.int .i64 (k : Int))) none).run Tryd.prog w = .ok (.string s) w
  c2 : ∀ w : World, (Instr.slice 9 (.string S) (some (.int .i64 (k1 : Int))) (some (.int .i64 (k17 : Int))) none).run Tryd.prog w = .ok (.string p) w
  hk : (18 : Int) + (n : Int) = (k : Int)
  w1 : IntKind.i64.wrap ((k : Int) + 1) = (k1 : Int)
  w17 : IntKind.i64.wrap ((k : Int) + 17) = (k17 : Int)
  w18 : IntKind.i64.wrap ((k : Int) + 18) = (k18 : Int)
  v1 : IntKind.i64.wrap ((m1 : Int) * 256) = (m256 : Int)
  v2 : IntKind.i64.wrap ((m256 : Int) + (m2 : Int)) = (m : Int)
  bq : IntKind.i64.wrap (q : Int) = (q : Int)
  bg : IntKind.i64.wrap (g : Int) = (g : Int)
  b1 : IntKind.i64.wrap (m1 : Int) = (m1 : Int)
  b2 : IntKind.i64.wrap (m2 : Int) = (m2 : Int)
  ln : n < 256
  lk : k < 300
  lm : m < 65536
set_option maxRecDepth 100000 in
set_option maxHeartbeats 1000000 in
theorem refFirst_cut (b : Nat) (S : ByteArray) (L n k k1 k17 k18 q g m1 m2 m256 m : Nat) (s p : ByteArray) (w : World) (hS : S.size = L) (F : FirstAt S n k k1 k17 k18 q g m1 m2 m256 m s p) (h1 : k + 19 ≤ L) (h2 : L < k + 19 + m) :
    Calls Tryd.prog 26 #[.pointer (some ⟨b, 0, none⟩), .string S] w fun x w' => x = .returned (.tuple #[.agg #[.int .i64 0, .string ⟨#[]⟩, .int .i64 0, .string ⟨#[]⟩, .string ⟨#[]⟩], .int .i64 0]) ∧ Below w.heap.size w w' := by
  have X0 := hide (HasR.new w 23 #[.int .i64 0, .string ⟨#[]⟩, .int .i64 0, .string ⟨#[]⟩, .string ⟨#[]⟩])
  have BL : Hid (Below w.heap.size w (w.alloc (.cells #[.int .i64 0, .string ⟨#[]⟩, .int .i64 0, .string ⟨#[]⟩, .string ⟨#[]⟩] 23))) := hide ((Below.refl _ w).alloc (Nat.le_refl _) _)
  obtain ⟨i17, i16, ik, ik17, ik18, c1, c2, hk, w1, w17, w18, v1, v2, bq, bg, b1, b2, ln, lk, lm⟩ := F
  have t18 : ¬ (L : Int) < 18 := by omega
  have tn : ¬ (L : Int) < 18 + (n : Int) + 19 := by omega
  have tk : ¬ (L : Int) < (k : Int) + 19 := by omega
  have tm : (L : Int) < (k : Int) + 19 + (m : Int) := by omega
  go_enter Tryd.func26, Tryd.ntmps26
  go_upto_region 1 with fail
  generalize w.alloc (.cells #[.int .i64 0, .string ⟨#[]⟩, .int .i64 0, .string ⟨#[]⟩, .string ⟨#[]⟩] 23) = w3 at X0 BL ⊢
  go_upto_region 4 with fail
  go_cut [7] (fun p7 wx => p7 = .pointer (some ⟨w3.heap.size, 0, none⟩) ∧ wx = (w3.alloc (.cells #[.int .i64 (q : Int), .string s, .int .i64 (g : Int), .string p, .string ⟨#[]⟩] 23)).drew)
  case first =>
    go_region_held3 (fun _ => True) (trivial) (fail)
    all_goals (go_wp2; go_meet; exact ⟨rfl, rfl⟩)
  case rest =>
    obtain ⟨rfl, rfl⟩ := hcut
    have X4 := hide (X0.out.alloc (.cells #[.int .i64 (q : Int), .string s, .int .i64 (g : Int), .string p, .string ⟨#[]⟩] 23)).drew.drew
    have B4 := hide (BL.out.alloc BL.out.size (.cells #[.int .i64 (q : Int), .string s, .int .i64 (g : Int), .string p, .string ⟨#[]⟩] 23)).drew.drew
    go_upto_region 5 with fail
    go_region
    generalize ((w3.alloc (.cells #[.int .i64 (q : Int), .string s, .int .i64 (g : Int), .string p, .string ⟨#[]⟩] 23)).drew).drew = w5 at X4 B4 ⊢
    obtain ⟨⟨t0, t1, t2, t3, t4⟩, u0, u1, u2, u3, u4⟩ := X4.out.rec0
    go_wp2_with fail
    have TF := stir5 w5 w.heap.size (.int .i64 0) (.string ⟨#[]⟩) (.int .i64 0) (.string ⟨#[]⟩) (.string ⟨#[]⟩)
    have X5 := HasR.five X4.out (.int .i64 0) (.string ⟨#[]⟩) (.int .i64 0) (.string ⟨#[]⟩) (.string ⟨#[]⟩)
    generalize ((((w5.setCell ⟨w.heap.size, 0, none⟩ (.int .i64 0)).setCell ⟨w.heap.size, 1, none⟩ (.string ⟨#[]⟩)).setCell ⟨w.heap.size, 2, none⟩ (.int .i64 0)).setCell ⟨w.heap.size, 3, none⟩ (.string ⟨#[]⟩)).setCell ⟨w.heap.size, 4, none⟩ (.string ⟨#[]⟩) = w6 at TF X5 ⊢
    obtain ⟨⟨z0, z1, z2, z3, z4⟩, _⟩ := X5.rec0
    refine bodyPost_ret (v := .tuple #[.agg #[.int .i64 0, .string ⟨#[]⟩, .int .i64 0, .string ⟨#[]⟩, .string ⟨#[]⟩], .int .i64 0]) (by simp [results, Tryd.results26, go_sem, z0, z1, z2, z3, z4]) rfl ⟨rfl, B4.out.trans (TF.below B4.out.size (fun j hj => by simp at hj; omega))⟩
end Go.Proofs.YtjobghphjkeohaaDoor

/- Is a number between two: the document's own way. -/
namespace Go.Proofs.YtjobghphjkeohaaDoor
open Go.RowKit
set_option maxRecDepth 100000 in
theorem in_any (n l h : Int) (w : World) :
    Calls Tryd.prog 24 #[.int .i64 n, .int .i64 l, .int .i64 h] w fun e w' => e = .returned (.bool (decide (l ≤ n) && decide (n ≤ h))) ∧ w' = w := by
  by_cases h1 : l ≤ n
  · have d1 : decide (l ≤ n) = true := by simp; omega
    by_cases h2 : n ≤ h
    · have d2 : decide (n ≤ h) = true := by simp; omega
      go_enter Tryd.func24, Tryd.ntmps24
      go_wp2
      go_ret
      exact ⟨ret_val (by simp [h1, h2]), rfl⟩
    · have d2 : decide (n ≤ h) = false := by simp; omega
      go_enter Tryd.func24, Tryd.ntmps24
      go_wp2
      go_ret
      exact ⟨ret_val rfl, rfl⟩
  · have d1 : decide (l ≤ n) = false := by simp; omega
    go_enter Tryd.func24, Tryd.ntmps24
    go_wp2
    go_ret
    exact ⟨ret_val rfl, rfl⟩
end Go.Proofs.YtjobghphjkeohaaDoor
