/- Texts of this proof, one behind the other. -/
import Derived.Sort.WalkB2
import Derived.Sort.WalkB12
import Derived.Deep.LoopGhost
import Derived.Test.YtedcbjefkhgiiabGreatDoorPart16
/- sort.insertionSort_func with a 'less' that may make blocks. -/
namespace Go.Proofs.YtedcbjefkhgiiabGreatDoor
open Go.RowKit Go.Sort
attribute [local go_sem ↓] Go.wp_at_zero Go.wp_at_succ
set_option linter.unusedSectionVars false
variable [Inhabited Cl]
set_option maxHeartbeats 2000000 in
set_option maxRecDepth 100000 in
theorem insertion_any (w0 : World) (blk n g : Nat) (lb : Array Value) (sf : Nat) (sb : Array Value) (a b : Nat) (d : Array Cl) (W : World) (eg : ∀ args w, (callFunc g args).run Tryz.prog w = .ok (.enter g args) w)
    (hless : LessS w0 blk n g lb) (hswap : SwapSwapsK Tryz.prog sf sb cellL 4 blk 0 n) (hS : Srt w0 blk W d) (hd : d.size = n) (hab : a ≤ b) (hb : b ≤ n) (hn : n ≤ 1000000) :
    Calls Tryz.prog 126 #[.agg #[.func (.func g) #[] lb, .func (.func sf) #[] sb], .int .i64 a, .int .i64 b] W fun e w' => e = .returned (.tuple #[]) ∧ Srt w0 blk w' (insertionSort ltC d a b) ∧ Stirred [blk] W w' := by
  have bel : Below W.heap.size W (W.alloc (.cells #[.func (.func g) #[] lb, .func (.func sf) #[] sb] 152)) := (Below.refl _ W).alloc (Nat.le_refl _) _
  have hbW : blk < W.heap.size := Nat.lt_of_lt_of_le hS.lt hS.but.size
  have S0 := hide (hS.still bel)
  have E0 := hide (HasR.new W 152 #[.func (.func g) #[] lb, .func (.func sf) #[] sb])
  have B0 := hide (Stirred.of_below bel [blk])
  have HL := hide hless
  have HW := hide hswap
  clear hS bel hless hswap
  go_enter Tryz.func126, Tryz.ntmps126
  go_wp2
  go_loopw [6] (fun vi wr => ∃ (i : Nat) (dk : Array Cl), vi = .int .i64 i ∧ a < i ∧ i ≤ b + 1 ∧ dk.size = n ∧ Srt w0 blk wr dk ∧ HasR wr W.heap.size 152 #[.func (.func g) #[] lb, .func (.func sf) #[] sb] ∧ Stirred [blk] W wr ∧
      insOuter ltC a b i dk = insOuter ltC a b (a + 1) d) (fun vi _ => b + 1 - (intOf vi).toNat)
  case atStart => exact ⟨a + 1, d, by go_num, by omega, by omega, hd, S0.out, E0.out, B0.out, rfl⟩
  case round =>
    clear S0 E0 B0
    obtain ⟨i, dk, rfl, hai, hib, hsk, hSk, hEk, hBk, hO⟩ := hrel
    have SK := hide hSk
    have EK := hide hEk
    have BK := hide hBk
    have HO := hide hO
    clear hSk hEk hBk hO
    go_wp2
    · go_loopw [7] (fun vj wr2 => ∃ (j : Nat) (dj : Array Cl), vj = .int .i64 j ∧ a ≤ j ∧ j ≤ i ∧ dj.size = n ∧ Srt w0 blk wr2 dj ∧ HasR wr2 W.heap.size 152 #[.func (.func g) #[] lb, .func (.func sf) #[] sb] ∧ Stirred [blk] W wr2 ∧
          insInner ltC a j dj = insInner ltC a i dk) (fun vj _ => (intOf vj).toNat)
      case atStart => exact ⟨i, dk, rfl, by omega, Nat.le_refl _, hsk, SK.out, EK.out, BK.out, rfl⟩
      case round =>
        clear SK EK BK
        obtain ⟨j, dj, rfl, haj, hji, hsj, hSj, hEj, hBj, hI⟩ := hrel
        have hlt : i < b := by assumption
        have c0 : wr.cell? ⟨W.heap.size, 0, none⟩ = some (.func (.func g) #[] lb) := hEj.cell 0
        have SJ := hide hSj
        have EJ := hide hEj
        have BJ := hide hBj
        have HI := hide hI
        clear hSj hEj hBj hI
        have out : (j ≤ a ∨ ltC dj[j]! dj[j - 1]! = false) → insOuter ltC a b (i + 1) dj = insOuter ltC a b (a + 1) d := fun hs => by
          rw [← HO.out, insOuter_go _ _ _ _ _ hlt, ← HI.out, insInner_stop _ _ _ _ hs]
        have OUT := hide out
        clear out
        by_cases hja : a < j
        · have hl := HL.out wr dj SJ.out hsj j (j - 1) (by omega) (by omega)
          rw [show (((j - 1 : Nat) : Int)) = (j : Int) - 1 by omega] at hl
          cases hlv : ltC dj[j]! dj[j - 1]! with
          | true =>
            rw [hlv] at hl
            go_wp2_with (go_at_fn g; refine hl.mono ?_; rintro e w' ⟨rfl, hb'⟩; have S2 := hide (SJ.out.still hb'); have E2 := hide (EJ.out.below hb' EJ.out.lt); have B2 := hide (BJ.out.then_below hb'); have c1 : w'.cell? ⟨W.heap.size, 1, none⟩ = some (.func (.func sf) #[] sb) := E2.out.cell 1; clear hb')
            have hs := HW.out w' dj S2.out.row hsj j (j - 1) (by omega) (by omega)
            rw [show (((j - 1 : Nat) : Int)) = (j : Int) - 1 by omega] at hs
            rw [hs, Oper.upon_value]
            obtain ⟨s3, t3⟩ := S2.out.swap (i := j) (j := j - 1) (by omega) (by omega)
            generalize (w'.setCells blk (0 + j * 4) (cellL dj[j - 1]!)).setCells blk (0 + (j - 1) * 4) (cellL dj[j]!) = w3 at s3 t3 ⊢
            have S3 := hide s3
            have E3 := hide (E2.out.turned t3 (by simp; omega))
            have B3 := hide (B2.out.andThen t3 (fun j hj => .inl hj))
            clear s3 t3
            go_wp2
            go_roundw
            case rel =>
              (repeat apply Exists.intro)
              exact ⟨⟨j - 1, swp dj j (j - 1), by congr 1 <;> omega, by omega, by omega, by rw [size_swp]; exact hsj, S3.out, E3.out, B3.out, by rw [← HI.out, insInner_go ltC a j dj hja hlv]⟩, by rw [decide_eq_true hlt, show ((j - 1 : Nat) : Int) = (j : Int) - 1 by omega]⟩
            case measure => simp [intOf]; omega
          | false =>
            rw [hlv] at hl
            go_wp2_with (go_at_fn g; refine hl.mono ?_; rintro e w' ⟨rfl, hb'⟩; have S2 := hide (SJ.out.still hb'); have E2 := hide (EJ.out.below hb' EJ.out.lt); have B2 := hide (BJ.out.then_below hb'); clear hb')
            go_roundw
            case rel => exact ⟨i + 1, dj, by go_num, by omega, by omega, hsj, S2.out, E2.out, B2.out, OUT.out (.inr hlv)⟩
            case measure => simp [intOf]; omega
        · go_wp2
          go_roundw
          case rel => exact ⟨i + 1, dj, by go_num, by omega, by omega, hsj, SJ.out, EJ.out, BJ.out, OUT.out (.inl (by omega))⟩
          case measure => simp [intOf]; omega
    · have hge : ¬ i < b := by assumption
      go_end0
      exact ⟨rfl, by unfold insertionSort; rw [← HO.out, insOuter_stop _ _ _ _ _ hge]; exact SK.out, BK.out⟩
end Go.Proofs.YtedcbjefkhgiiabGreatDoor

/- sort.siftDown_func with a 'less' that may make blocks. -/
namespace Go.Proofs.YtedcbjefkhgiiabGreatDoor
open Go.RowKit Go.Sort
attribute [local go_sem ↓] Go.wp_at_zero Go.wp_at_succ
set_option linter.unusedSectionVars false
variable [Inhabited Cl]
/-- The sort's world, and the box of the two functions that a callee has made. -/
structure Dat (w0 W : World) (blk g : Nat) (lb : Array Value) (sf : Nat) (sb : Array Value) (w : World) (d : Array Cl) : Prop where
  srt : Srt w0 blk w d
  box : HasR w W.heap.size 152 #[.func (.func g) #[] lb, .func (.func sf) #[] sb]
  but : Stirred [blk] W w
  lt : blk < W.heap.size
theorem dat_new {w0 W : World} {blk : Nat} {d : Array Cl} (h : Srt w0 blk W d) (g : Nat) (lb : Array Value) (sf : Nat) (sb : Array Value) : Dat w0 W blk g lb sf sb (W.alloc (.cells #[.func (.func g) #[] lb, .func (.func sf) #[] sb] 152)) d :=
  have bel : Below W.heap.size W (W.alloc (.cells #[.func (.func g) #[] lb, .func (.func sf) #[] sb] 152)) := (Below.refl _ W).alloc (Nat.le_refl _) _
  ⟨h.still bel, HasR.new W 152 _, Stirred.of_below bel [blk], Nat.lt_of_lt_of_le h.lt h.but.size⟩
theorem Dat.still {w0 W : World} {blk g : Nat} {lb : Array Value} {sf : Nat} {sb : Array Value} {w w' : World} {d : Array Cl} (h : Dat w0 W blk g lb sf sb w d) (k : Below w.heap.size w w') : Dat w0 W blk g lb sf sb w' d :=
  ⟨h.srt.still k, h.box.below k h.box.lt, h.but.then_below k, h.lt⟩
theorem Dat.less {w0 W : World} {blk g n : Nat} {lb : Array Value} {sf : Nat} {sb : Array Value} {w : World} {d : Array Cl} (h : Dat w0 W blk g lb sf sb w d) (hl : LessS w0 blk n g lb) (hd : d.size = n) {i j : Nat} (hi : i < n) (hj : j < n) {x y : Int} (hx : (i : Int) = x) (hy : (j : Int) = y) {r : Bool} (hr : ltC d[i]! d[j]! = r) :
    Calls Tryz.prog g (#[.int .i64 x, .int .i64 y] ++ lb) w fun e w' => e = .returned (.bool r) ∧ Dat w0 W blk g lb sf sb w' d := by
  subst hx hy hr
  exact (hl w d h.srt hd i j hi hj).mono fun e w' ⟨he, hb⟩ => ⟨he, h.still hb⟩
theorem Dat.swap {w0 W : World} {blk g n : Nat} {lb : Array Value} {sf : Nat} {sb : Array Value} {w : World} {d : Array Cl} (h : Dat w0 W blk g lb sf sb w d) (hs : SwapSwapsK Tryz.prog sf sb cellL 4 blk 0 n) (hd : d.size = n) {i j : Nat} (hi : i < n) (hj : j < n) {x y : Int} (hx : (i : Int) = x) (hy : (j : Int) = y) :
    ∃ w3, (callFunc sf (#[.int .i64 x, .int .i64 y] ++ sb)).run Tryz.prog w = .ok (.value (.tuple #[])) w3 ∧ Dat w0 W blk g lb sf sb w3 (swp d i j) := by
  subst hx hy
  obtain ⟨s3, t3⟩ := h.srt.swap (i := i) (j := j) (by omega) (by omega)
  have hl := h.lt
  exact ⟨_, hs w d h.srt.row hd i j hi hj, s3, h.box.turned t3 (by simp; omega), h.but.andThen t3 (fun j hj => .inl hj), h.lt⟩
set_option maxHeartbeats 4000000 in
set_option maxRecDepth 1000000 in
theorem sift_any (w0 : World) (blk n g : Nat) (lb : Array Value) (sf : Nat) (sb : Array Value) (lo hi first : Nat) (d : Array Cl) (W : World) (eg : ∀ args w, (callFunc g args).run Tryz.prog w = .ok (.enter g args) w)
    (hless : LessS w0 blk n g lb) (hswap : SwapSwapsK Tryz.prog sf sb cellL 4 blk 0 n) (hS : Srt w0 blk W d) (hd : d.size = n) (hlo : lo ≤ hi) (hb : first + hi ≤ n) (hn : n ≤ 1000000) :
    Calls Tryz.prog 162 #[.agg #[.func (.func g) #[] lb, .func (.func sf) #[] sb], .int .i64 lo, .int .i64 hi, .int .i64 first] W fun e w' => e = .returned (.tuple #[]) ∧ Srt w0 blk w' (siftDown ltC hi first lo d) ∧ Stirred [blk] W w' := by
  have D0 := hide (dat_new hS g lb sf sb)
  have HL := hide hless
  have HW := hide hswap
  clear hS hless hswap
  go_enter Tryz.func162, Tryz.ntmps162
  go_wp2
  go_loopg [8] (hi - lo) (fun kx s8 wr => ∃ (root : Nat) (dk : Array Cl), s8 = .int .i64 root ∧ root ≤ hi ∧ hi - root ≤ kx ∧ dk.size = n ∧ Dat w0 W blk g lb sf sb wr dk ∧ Hid (siftDown ltC hi first root dk = siftDown ltC hi first lo d))
  case atStart => exact ⟨lo, d, rfl, hlo, Nat.le_refl _, hd, D0.out, rfl⟩
  case round =>
    clear D0
    obtain ⟨root, dk, rfl, hr, hkx, hds, hD, HE⟩ := hrel
    have D := hide hD
    have c0 : wr.cell? ⟨W.heap.size, 0, none⟩ = some (.func (.func g) #[] lb) := hD.box.cell 0
    clear hD
    by_cases h0 : hi ≤ 2 * root + 1
    · have h0z : (hi : Int) ≤ 2 * (root : Int) + 1 := by omega
      go_wp2
      go_end0
      exact ⟨rfl, by rw [← HE.out, sd_end ltC dk h0]; exact D.out.srt, D.out.but⟩
    · have h0z : ¬ ((hi : Int) ≤ 2 * (root : Int) + 1) := by omega
      by_cases h1 : 2 * root + 2 < hi
      · have h1z : 2 * (root : Int) + 1 + 1 < (hi : Int) := by omega
        cases hL : ltC dk[first + (2 * root + 1)]! dk[first + (2 * root + 2)]! with
        | true =>
          have L1 := hide (D.out.less HL.out hds (i := first + (2 * root + 1)) (j := first + (2 * root + 2)) (by omega) (by omega) (x := (first : Int) + (2 * (root : Int) + 1)) (y := (first : Int) + (2 * (root : Int) + 1) + 1) (by omega) (by omega) hL)
          cases hG : ltC dk[first + root]! dk[first + (2 * root + 2)]! with
          | true =>
            go_wp2_with (first | (go_at_fn g; (with_reducible refine L1.out.mono ?_); rintro e w1 ⟨rfl, hD1⟩; have D1 := hide hD1; have c1 : w1.cell? ⟨W.heap.size, 0, none⟩ = some (.func (.func g) #[] lb) := hD1.box.cell 0; clear hD1) | (go_at_fn g; refine (Dat.less D1.out HL.out hds (i := first + root) (j := first + (2 * root + 2)) (by omega) (by omega) (x := (first : Int) + (root : Int)) (y := (first : Int) + (2 * (root : Int) + 1 + 1)) (by omega) (by omega) hG).mono ?_; rintro e w2 ⟨rfl, hD2⟩; have D2 := hide hD2; have c2 : w2.cell? ⟨W.heap.size, 1, none⟩ = some (.func (.func sf) #[] sb) := hD2.box.cell 1; clear hD2))
            obtain ⟨w3, hw3, hD3⟩ := D2.out.swap HW.out hds (i := first + root) (j := first + (2 * root + 2)) (by omega) (by omega) (x := (first : Int) + (root : Int)) (y := (first : Int) + (2 * (root : Int) + 1 + 1)) (by omega) (by omega)
            rw [hw3, Oper.upon_value]
            have D3 := hide hD3
            clear hD3 hw3
            go_wp2
            go_roundg (hi - (2 * root + 2))
            case measure => omega
            case rel => exact ⟨2 * root + 2, swp dk (first + root) (first + (2 * root + 2)), by go_num, by omega, Nat.le_refl _, by rw [size_swp]; exact hds, D3.out, (show Hid _ from by rw [← HE.out, sd_right_go ltC dk h1 hL hG]; exact rfl)⟩
          | false =>
            go_wp2_with (first | (go_at_fn g; (with_reducible refine L1.out.mono ?_); rintro e w1 ⟨rfl, hD1⟩; have D1 := hide hD1; have c1 : w1.cell? ⟨W.heap.size, 0, none⟩ = some (.func (.func g) #[] lb) := hD1.box.cell 0; clear hD1) | (go_at_fn g; refine (Dat.less D1.out HL.out hds (i := first + root) (j := first + (2 * root + 2)) (by omega) (by omega) (x := (first : Int) + (root : Int)) (y := (first : Int) + (2 * (root : Int) + 1 + 1)) (by omega) (by omega) hG).mono ?_; rintro e w2 ⟨rfl, hD2⟩; have D2 := hide hD2; have c2 : w2.cell? ⟨W.heap.size, 1, none⟩ = some (.func (.func sf) #[] sb) := hD2.box.cell 1; clear hD2))
            (try simp only [Exit.inBlock, Exit.then]); refine bodyPost_ret (results_none rfl _ _ _) rfl ?_
            exact ⟨rfl, by rw [← HE.out, sd_right_stop ltC dk h1 hL hG]; exact D2.out.srt, D2.out.but⟩
        | false =>
          have L1 := hide (D.out.less HL.out hds (i := first + (2 * root + 1)) (j := first + (2 * root + 2)) (by omega) (by omega) (x := (first : Int) + (2 * (root : Int) + 1)) (y := (first : Int) + (2 * (root : Int) + 1) + 1) (by omega) (by omega) hL)
          cases hG : ltC dk[first + root]! dk[first + (2 * root + 1)]! with
          | true =>
            go_wp2_with (first | (go_at_fn g; (with_reducible refine L1.out.mono ?_); rintro e w1 ⟨rfl, hD1⟩; have D1 := hide hD1; have c1 : w1.cell? ⟨W.heap.size, 0, none⟩ = some (.func (.func g) #[] lb) := hD1.box.cell 0; clear hD1) | (go_at_fn g; refine (Dat.less D1.out HL.out hds (i := first + root) (j := first + (2 * root + 1)) (by omega) (by omega) (x := (first : Int) + (root : Int)) (y := (first : Int) + (2 * (root : Int) + 1)) (by omega) (by omega) hG).mono ?_; rintro e w2 ⟨rfl, hD2⟩; have D2 := hide hD2; have c2 : w2.cell? ⟨W.heap.size, 1, none⟩ = some (.func (.func sf) #[] sb) := hD2.box.cell 1; clear hD2))
            obtain ⟨w3, hw3, hD3⟩ := D2.out.swap HW.out hds (i := first + root) (j := first + (2 * root + 1)) (by omega) (by omega) (x := (first : Int) + (root : Int)) (y := (first : Int) + (2 * (root : Int) + 1)) (by omega) (by omega)
            rw [hw3, Oper.upon_value]
            have D3 := hide hD3
            clear hD3 hw3
            go_wp2
            go_roundg (hi - (2 * root + 1))
            case measure => omega
            case rel => exact ⟨2 * root + 1, swp dk (first + root) (first + (2 * root + 1)), by go_num, by omega, Nat.le_refl _, by rw [size_swp]; exact hds, D3.out, (show Hid _ from by rw [← HE.out, sd_left_go ltC dk (by omega) (fun _ => hL) hG]; exact rfl)⟩
          | false =>
            go_wp2_with (first | (go_at_fn g; (with_reducible refine L1.out.mono ?_); rintro e w1 ⟨rfl, hD1⟩; have D1 := hide hD1; have c1 : w1.cell? ⟨W.heap.size, 0, none⟩ = some (.func (.func g) #[] lb) := hD1.box.cell 0; clear hD1) | (go_at_fn g; refine (Dat.less D1.out HL.out hds (i := first + root) (j := first + (2 * root + 1)) (by omega) (by omega) (x := (first : Int) + (root : Int)) (y := (first : Int) + (2 * (root : Int) + 1)) (by omega) (by omega) hG).mono ?_; rintro e w2 ⟨rfl, hD2⟩; have D2 := hide hD2; have c2 : w2.cell? ⟨W.heap.size, 1, none⟩ = some (.func (.func sf) #[] sb) := hD2.box.cell 1; clear hD2))
            (try simp only [Exit.inBlock, Exit.then]); refine bodyPost_ret (results_none rfl _ _ _) rfl ?_
            exact ⟨rfl, by rw [← HE.out, sd_left_stop ltC dk (by omega) (fun _ => hL) hG]; exact D2.out.srt, D2.out.but⟩
      · have h1z : ¬ (2 * (root : Int) + 1 + 1 < (hi : Int)) := by omega
        cases hG : ltC dk[first + root]! dk[first + (2 * root + 1)]! with
        | true =>
            go_wp2_with (go_at_fn g; refine (Dat.less D.out HL.out hds (i := first + root) (j := first + (2 * root + 1)) (by omega) (by omega) (x := (first : Int) + (root : Int)) (y := (first : Int) + (2 * (root : Int) + 1)) (by omega) (by omega) hG).mono ?_; rintro e w2 ⟨rfl, hD2⟩; have D2 := hide hD2; have c2 : w2.cell? ⟨W.heap.size, 1, none⟩ = some (.func (.func sf) #[] sb) := hD2.box.cell 1; clear hD2)
            obtain ⟨w3, hw3, hD3⟩ := D2.out.swap HW.out hds (i := first + root) (j := first + (2 * root + 1)) (by omega) (by omega) (x := (first : Int) + (root : Int)) (y := (first : Int) + (2 * (root : Int) + 1)) (by omega) (by omega)
            rw [hw3, Oper.upon_value]
            have D3 := hide hD3
            clear hD3 hw3
            go_wp2
            go_roundg (hi - (2 * root + 1))
            case measure => omega
            case rel => exact ⟨2 * root + 1, swp dk (first + root) (first + (2 * root + 1)), by go_num, by omega, Nat.le_refl _, by rw [size_swp]; exact hds, D3.out, (show Hid _ from by rw [← HE.out, sd_left_go ltC dk (by omega) (fun h => absurd h h1) hG]; exact rfl)⟩
        | false =>
            go_wp2_with (go_at_fn g; refine (Dat.less D.out HL.out hds (i := first + root) (j := first + (2 * root + 1)) (by omega) (by omega) (x := (first : Int) + (root : Int)) (y := (first : Int) + (2 * (root : Int) + 1)) (by omega) (by omega) hG).mono ?_; rintro e w2 ⟨rfl, hD2⟩; have D2 := hide hD2; have c2 : w2.cell? ⟨W.heap.size, 1, none⟩ = some (.func (.func sf) #[] sb) := hD2.box.cell 1; clear hD2)
            (try simp only [Exit.inBlock, Exit.then]); refine bodyPost_ret (results_none rfl _ _ _) rfl ?_
            exact ⟨rfl, by rw [← HE.out, sd_left_stop ltC dk (by omega) (fun h => absurd h h1) hG]; exact D2.out.srt, D2.out.but⟩
end Go.Proofs.YtedcbjefkhgiiabGreatDoor
