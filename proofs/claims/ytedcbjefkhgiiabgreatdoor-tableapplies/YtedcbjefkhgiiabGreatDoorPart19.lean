/- Texts of this proof, one behind the other. -/
import Derived.Sort.LotD4
import Derived.Test.YtedcbjefkhgiiabGreatDoorPart18
/- sort.median_func with a 'less' that may make blocks. -/
namespace Go.Proofs.YtedcbjefkhgiiabGreatDoor
open Go.RowKit Go.Sort
attribute [local go_sem ↓] Go.wp_at_zero Go.wp_at_succ
set_option linter.unusedSectionVars false
variable [Inhabited Cl]
set_option maxHeartbeats 1000000 in
set_option maxRecDepth 100000 in
theorem median_any (w0 : World) (blk n g : Nat) (lb : Array Value) (sf : Nat) (sb : Array Value) (a b c cb s : Nat) (d : Array Cl) (W : World) (eg : ∀ args w, (callFunc g args).run Tryz.prog w = .ok (.enter g args) w)
    (hless : LessS w0 blk n g lb) (hC : Cnt w0 blk cb W d s) (hd : d.size = n) (ha : a < n) (hb : b < n) (hc : c < n) (hs : s + 3 < 1000000) :
    Calls Tryz.prog 166 #[.agg #[.func (.func g) #[] lb, .func (.func sf) #[] sb], .int .i64 a, .int .i64 b, .int .i64 c, .pointer (some ⟨cb, 0, none⟩)] W fun e w' =>
      e = .returned (.int .i64 (median ltC d a b c s).1) ∧ Cnt w0 blk cb w' d (median ltC d a b c s).2 ∧ Stirred [cb] W w' := by
  have l1 := order2_lt' ltC d s (a := a) (b := b) (by omega) (by omega)
  have s1 := order2_swaps' ltC d a b s
  have l2 := order2_lt' ltC d (order2 ltC d a b s).2.2 l1.2 (b := c) (by omega)
  have s2 := order2_swaps' ltC d (order2 ltC d a b s).2.1 c (order2 ltC d a b s).2.2
  have bel : Below W.heap.size W (W.alloc (.cells #[.func (.func g) #[] lb, .func (.func sf) #[] sb] 152)) := (Below.refl _ W).alloc (Nat.le_refl _) _
  have E0 := hide (HasR.new W 152 #[.func (.func g) #[] lb, .func (.func sf) #[] sb])
  have C0 := hide (hC.still bel)
  have hcb := hC.cnt.lt
  have T0 := hide (Stirred.of_below bel [cb])
  have O := hide (fun a b s wx (h : Cnt w0 blk cb wx d s) (ha : a < n) (hb : b < n) (hs : s < 1000000) => order2_any w0 blk n g lb sf sb a b cb s d wx eg hless h hd ha hb hs)
  have P1 := hide (O.out a b s _ C0.out (by omega) (by omega) (by omega))
  have P2 := hide (fun wx h => O.out (order2 ltC d a b s).2.1 c (order2 ltC d a b s).2.2 wx h l1.2 (by omega) (by omega))
  have P3 := hide (fun wx h => O.out (order2 ltC d a b s).1 (order2 ltC d (order2 ltC d a b s).2.1 c (order2 ltC d a b s).2.2).1 (order2 ltC d (order2 ltC d a b s).2.1 c (order2 ltC d a b s).2.2).2.2 wx h l1.1 l2.1 (by omega))
  have em : median ltC d a b c s = ((order2 ltC d (order2 ltC d a b s).1 (order2 ltC d (order2 ltC d a b s).2.1 c (order2 ltC d a b s).2.2).1 (order2 ltC d (order2 ltC d a b s).2.1 c (order2 ltC d a b s).2.2).2.2).2.1, (order2 ltC d (order2 ltC d a b s).1 (order2 ltC d (order2 ltC d a b s).2.1 c (order2 ltC d a b s).2.2).1 (order2 ltC d (order2 ltC d a b s).2.1 c (order2 ltC d a b s).2.2).2.2).2.2) := rfl
  rw [em]
  generalize order2 ltC d (order2 ltC d a b s).1 (order2 ltC d (order2 ltC d a b s).2.1 c (order2 ltC d a b s).2.2).1 (order2 ltC d (order2 ltC d a b s).2.1 c (order2 ltC d a b s).2.2).2.2 = r3 at P3 ⊢
  generalize order2 ltC d (order2 ltC d a b s).2.1 c (order2 ltC d a b s).2.2 = r2 at P2 P3
  generalize order2 ltC d a b s = r1 at P1 P2 P3
  have c0 : (W.alloc (.cells #[.func (.func g) #[] lb, .func (.func sf) #[] sb] 152)).cell? ⟨W.heap.size, 0, none⟩ = some (.func (.func g) #[] lb) := by simp
  have c1 : (W.alloc (.cells #[.func (.func g) #[] lb, .func (.func sf) #[] sb] 152)).cell? ⟨W.heap.size, 1, none⟩ = some (.func (.func sf) #[] sb) := by simp
  have hne : W.heap.size ∉ [cb] := by simp; omega
  have HN := hide hne
  clear hless hC bel l1 l2 s1 s2 em O hne
  go_enter Tryz.func166, Tryz.ntmps166
  go_wp2_with (first
    | (go_at_call 193; (with_reducible refine P1.out.mono ?_); rintro e w1 ⟨rfl, k1, t1⟩; have C1 := hide k1; have E1 := hide (E0.out.turned t1 HN.out); have T1 := hide (T0.out.andThen t1 (fun j hj => .inl hj)); have x0 : w1.cell? ⟨W.heap.size, 0, none⟩ = some (.func (.func g) #[] lb) := E1.out.cell 0; have x1 : w1.cell? ⟨W.heap.size, 1, none⟩ = some (.func (.func sf) #[] sb) := E1.out.cell 1; clear k1 t1)
    | (go_at_call 193; (with_reducible refine (P2.out _ C1.out).mono ?_); rintro e w2 ⟨rfl, k2, t2⟩; have C2 := hide k2; have E2 := hide (E1.out.turned t2 HN.out); have T2 := hide (T1.out.andThen t2 (fun j hj => .inl hj)); have y0 : w2.cell? ⟨W.heap.size, 0, none⟩ = some (.func (.func g) #[] lb) := E2.out.cell 0; have y1 : w2.cell? ⟨W.heap.size, 1, none⟩ = some (.func (.func sf) #[] sb) := E2.out.cell 1; clear k2 t2)
    | (go_at_call 193; (with_reducible refine (P3.out _ C2.out).mono ?_); rintro e w3 ⟨rfl, k3, t3⟩; have C3 := hide k3; have T3 := hide (T2.out.andThen t3 (fun j hj => .inl hj)); clear k3 t3))
  go_ret
  exact ⟨rfl, C3.out, T3.out⟩
end Go.Proofs.YtedcbjefkhgiiabGreatDoor

/- sort.choosePivot_func with a 'less' that may make blocks, at 8 to 49 elements. -/
namespace Go.Proofs.YtedcbjefkhgiiabGreatDoor
open Go.RowKit Go.Sort
attribute [local go_sem ↓] Go.wp_at_zero Go.wp_at_succ
set_option linter.unusedSectionVars false
variable [Inhabited Cl]
theorem pivot_is {d : Array Cl} {a l : Nat} (h8 : 8 ≤ l) (h50 : l < 50) : choosePivot ltC d a (a + l) = ((median ltC d (a + l / 4 * 1) (a + l / 4 * 2) (a + l / 4 * 3) 0).1, hintOf (median ltC d (a + l / 4 * 1) (a + l / 4 * 2) (a + l / 4 * 3) 0).2) := by
  unfold choosePivot hintOf
  rw [show a + l - a = l by omega]
  simp only [ge_iff_le, h8, if_true, show ¬ 50 ≤ l by omega, if_false]
theorem Cnt.start {w0 W : World} {blk : Nat} {d : Array Cl} (h : Srt w0 blk W d) : Cnt w0 blk W.heap.size (W.alloc (.cells #[.int .i64 0] 3)) d 0 :=
  ⟨h.still ((Below.refl _ W).alloc (Nat.le_refl _) _), HasR.new W 3 _, h.but.size⟩
set_option maxHeartbeats 1000000 in
set_option maxRecDepth 100000 in
theorem pivot_any (w0 : World) (blk n g : Nat) (lb : Array Value) (sf : Nat) (sb : Array Value) (a l : Nat) (d : Array Cl) (W : World) (eg : ∀ args w, (callFunc g args).run Tryz.prog w = .ok (.enter g args) w)
    (hless : LessS w0 blk n g lb) (hS : Srt w0 blk W d) (hd : d.size = n) (hb : a + l ≤ n) (h8 : 8 ≤ l) (h50 : l < 50) (hn : n ≤ 1000000) :
    Calls Tryz.prog 129 #[.agg #[.func (.func g) #[] lb, .func (.func sf) #[] sb], .int .i64 a, .int .i64 ((a : Int) + (l : Int))] W fun e w' =>
      e = .returned (.tuple #[.int .i64 (choosePivot ltC d a (a + l)).1, .int .i64 (hintCode (choosePivot ltC d a (a + l)).2)]) ∧ Srt w0 blk w' d ∧ Below W.heap.size W w' := by
  rw [pivot_is h8 h50]
  have bel : Below W.heap.size W (W.alloc (.cells #[.func (.func g) #[] lb, .func (.func sf) #[] sb] 152)) := (Below.refl _ W).alloc (Nat.le_refl _) _
  have C0 := hide (Cnt.start (hS.still bel))
  have E0 := hide ((HasR.new W 152 #[.func (.func g) #[] lb, .func (.func sf) #[] sb]).alloc (.cells #[.int .i64 0] 3))
  have B0 := hide (bel.alloc bel.size (.cells #[.int .i64 0] 3))
  have M := hide (median_any w0 blk n g lb sf sb (a + l / 4 * 1) (a + l / 4 * 2) (a + l / 4 * 3) _ 0 d _ eg hless C0.out hd (by omega) (by omega) (by omega) (by omega))
  rw [World.size_alloc, show ((a + l / 4 * 1 : Nat) : Int) = (a : Int) + ((a : Int) + (l : Int) - (a : Int)) / 4 by omega, show ((a + l / 4 * 2 : Nat) : Int) = (a : Int) + ((a : Int) + (l : Int) - (a : Int)) / 4 * 2 by omega, show ((a + l / 4 * 3 : Nat) : Int) = (a : Int) + ((a : Int) + (l : Int) - (a : Int)) / 4 * 3 by omega] at M
  rw [World.size_alloc] at C0
  have i8 : (8 : Int) ≤ (l : Int) := by omega
  have i50 : ¬ (50 : Int) ≤ (l : Int) := by omega
  have c0 := E0.out.cell 0
  have c1 := E0.out.cell 1
  generalize median ltC d (a + l / 4 * 1) (a + l / 4 * 2) (a + l / 4 * 3) 0 = r at M ⊢
  obtain ⟨r1, r2⟩ := r
  simp only at M ⊢
  clear hless hS bel
  have hcase : (r2 = 0 ∧ hintOf r2 = .increasing) ∨ ((((r2 : Int) == 0) = false ∧ r2 = 12 ∧ hintOf r2 = .decreasing)) ∨ (((r2 : Int) == 0) = false ∧ ((r2 : Int) == 12) = false ∧ hintOf r2 = .unknown) := by
    by_cases h0 : r2 = 0
    · exact .inl ⟨h0, by simp [hintOf, h0]⟩
    · by_cases h1 : r2 = 12
      · exact .inr (.inl ⟨by simp; omega, h1, by simp [hintOf, h1]⟩)
      · exact .inr (.inr ⟨by simp; omega, by simp; omega, by simp [hintOf, h0, h1]⟩)
  rcases hcase with ⟨rfl, hh⟩ | ⟨z0, rfl, hh⟩ | ⟨z0, z1, hh⟩ <;> rw [hh] <;> clear hh <;>
    (go_enter Tryz.func129, Tryz.ntmps129
     go_wp2_with (go_at_call 166; (with_reducible refine M.out.mono ?_); rintro e w1 ⟨rfl, k1, t1⟩; have cc := k1.cnt.cell 0; have K1 := hide k1; have T1 := hide t1; simp only [List.getElem?_toArray, List.getElem?_cons_zero] at cc; clear k1 t1)
     go_ret2
     exact ⟨rfl, K1.out.srt, B0.out.trans (T1.out.below (by simp; omega) (fun j hj => by simp at hj; omega))⟩)
end Go.Proofs.YtedcbjefkhgiiabGreatDoor
