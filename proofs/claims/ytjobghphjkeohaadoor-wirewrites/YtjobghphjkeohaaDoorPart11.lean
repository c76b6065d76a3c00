/- Texts of this proof, one behind the other. -/
import Derived.Deep.DeepCutAuto
import Derived.Shelf.Abstract
import Derived.Test.YtjobghphjkeohaaDoorPart10
/- Bytes taken for a record's parts: the program's cut. -/
namespace Go.Proofs.YtjobghphjkeohaaDoor
open Go.RowKit
attribute [local go_sem ↓] Go.wp_at_zero Go.wp_at_succ
theorem tx_take (l : List UInt8) (k : Nat) : (tx l).extract 0 k = tx (l.take k) := by
  apply ByteArray.ext
  rw [ByteArray.data_extract]
  apply Array.toList_inj.1
  rw [Array.toList_extract]
  show List.extract l 0 k = l.take k
  simp [List.extract]
theorem tx_drop (l : List UInt8) (k : Nat) : (tx l).extract k l.length = tx (l.drop k) := by
  apply ByteArray.ext
  rw [ByteArray.data_extract]
  apply Array.toList_inj.1
  rw [Array.toList_extract]
  show List.extract l k l.length = l.drop k
  simp only [List.extract]
  rw [List.take_of_length_le (by rw [List.length_drop]; exact Nat.le_refl _)]
set_option maxRecDepth 100000 in
set_option maxHeartbeats 1000000 in
theorem take_any (b n : Nat) (l : List UInt8) (w : World) (hb : HasR w b 9 #[.string (tx l)]) :
    Calls Tryd.prog 46 #[.int .i64 (n : Int), .pointer (some ⟨b, 0, none⟩)] w fun x w' => x = .returned (.string (tx (l.take n))) ∧ w' = w.setCell ⟨b, 0, none⟩ (.string (tx (l.drop n))) := by
  have c0 : w.cell? ⟨b, 0, none⟩ = some (.string (tx l)) := hb.cell 0
  have f0 : w.frozen? ⟨b, 0, none⟩ = false := hb.free 0
  have hsz : (tx l).size = l.length := rfl
  have ht := tx_take l
  have hd := tx_drop l
  by_cases h : n ≤ l.length
  · have h1 : (n : Int) ≤ (l.length : Int) := by omega
    have hmin : min (n : Int) (l.length : Int) = (n : Int) := by omega
    have htl : (tx (l.take n)).size = n := by rw [tx_size, List.length_take]; omega
    clear hb
    go_enter Tryd.func46, Tryd.ntmps46
    go_wp2
    go_ret
    exact ⟨rfl, rfl⟩
  · have h1 : ¬ (n : Int) ≤ (l.length : Int) := by omega
    have hmin : min (n : Int) (l.length : Int) = (l.length : Int) := by omega
    have htl : (tx (l.take l.length)).size = l.length := by rw [tx_size, List.length_take]; omega
    have e1 : l.take n = l.take l.length := by rw [List.take_of_length_le (by omega), List.take_length]
    have e2 : l.drop n = l.drop l.length := by rw [List.drop_eq_nil_of_le (by omega), List.drop_length]
    rw [e1, e2]
    clear hb e1 e2
    go_enter Tryd.func46, Tryd.ntmps46
    go_wp2
    go_ret
    exact ⟨rfl, rfl⟩
theorem byte_lt (a : UInt8) : a.toNat < 256 := a.toNat_lt
theorem or_zero (a : UInt8) : bits .or .i64 0 (a.toNat : Int) = (a.toNat : Int) := by
  have := byte_lt a
  show IntKind.i64.wrap ((BitVec.ofInt 64 0 ||| BitVec.ofInt 64 (a.toNat : Int)).toNat : Int) = _
  rw [BitVec.ofInt_natCast, BitVec.toNat_or, BitVec.toNat_ofNat, Nat.mod_eq_of_lt (by omega)]
  rw [IntKind.wrap_i64]
  simp
  omega
theorem or_byte (a b : UInt8) : bits .or .i64 ((a.toNat : Int) * 256) (b.toNat : Int) = ((a.toNat * 256 + b.toNat : Nat) : Int) := by
  have h1 := byte_lt a
  have h2 := byte_lt b
  show IntKind.i64.wrap ((BitVec.ofInt 64 ((a.toNat : Int) * 256) ||| BitVec.ofInt 64 (b.toNat : Int)).toNat : Int) = _
  rw [show ((a.toNat : Int) * 256) = ((a.toNat * 256 : Nat) : Int) by omega]
  rw [BitVec.ofInt_natCast, BitVec.ofInt_natCast, BitVec.toNat_or, BitVec.toNat_ofNat, BitVec.toNat_ofNat, Nat.mod_eq_of_lt (by omega), Nat.mod_eq_of_lt (by omega)]
  have h3 : a.toNat * 256 ||| b.toNat = a.toNat * 256 + b.toNat := by
    have := Nat.shiftLeft_add_eq_or_of_lt (b := b.toNat) (i := 8) (by omega) a.toNat
    rw [Nat.shiftLeft_eq] at this
    exact this.symm
  rw [h3, IntKind.wrap_i64]
  omega
theorem wrap_byte (a : UInt8) : wrap64 (a.toNat : Int) = (a.toNat : Int) := by
  have := byte_lt a
  unfold wrap64
  omega
set_option maxRecDepth 100000 in
set_option maxHeartbeats 1000000 in
theorem number_none (w : World) : Calls Tryd.prog 47 #[.string (tx [])] w fun x w' => x = .returned (.int .i64 0) ∧ w' = w := by
  have hsz : (tx []).size = 0 := rfl
  go_enter Tryd.func47, Tryd.ntmps47
  go_wp2
  refine wp_loop_rounds 1 ?_
  rw [rounds_succ]
  go_wp2
  go_ret
  exact ⟨rfl, rfl⟩
set_option maxRecDepth 100000 in
set_option maxHeartbeats 1000000 in
theorem number_one (a : UInt8) (w : World) : Calls Tryd.prog 47 #[.string (tx [a])] w fun x w' => x = .returned (.int .i64 (a.toNat : Int)) ∧ w' = w := by
  have hsz : (tx [a]).size = 1 := rfl
  go_enter Tryd.func47, Tryd.ntmps47
  go_wp2
  refine wp_loop_rounds 2 ?_
  rw [rounds_succ]
  go_wp2
  rw [rounds_succ]
  go_wp2
  go_ret
  refine ⟨ret_val ?_, rfl⟩
  show Value.int .i64 (bits .or .i64 0 (wrap64 (a.toNat : Int))) = _
  rw [wrap_byte, or_zero]
set_option maxRecDepth 100000 in
set_option maxHeartbeats 1000000 in
theorem number_two (a b : UInt8) (w : World) : Calls Tryd.prog 47 #[.string (tx [a, b])] w fun x w' => x = .returned (.int .i64 ((a.toNat * 256 + b.toNat : Nat) : Int)) ∧ w' = w := by
  have hsz : (tx [a, b]).size = 2 := rfl
  go_enter Tryd.func47, Tryd.ntmps47
  go_wp2
  refine wp_loop_rounds 3 ?_
  rw [rounds_succ]
  go_wp2
  rw [rounds_succ]
  go_wp2
  rw [rounds_succ]
  go_wp2
  go_ret
  refine ⟨ret_val ?_, rfl⟩
  have h1 := byte_lt a
  show Value.int .i64 (bits .or .i64 (wrap64 (bits .or .i64 0 (wrap64 (a.toNat : Int)) * 256)) (wrap64 (b.toNat : Int))) = _
  have h2 : wrap64 ((a.toNat : Int) * 256) = (a.toNat : Int) * 256 := by unfold wrap64; omega
  rw [wrap_byte, wrap_byte, or_zero, h2, or_byte]
theorem number_any (l : List UInt8) (w : World) (h : l.length ≤ 2) : Calls Tryd.prog 47 #[.string (tx l)] w fun x w' => x = .returned (.int .i64 ((numL l : Nat) : Int)) ∧ w' = w := by
  match l, h with
  | [], _ => exact number_none w
  | [a], _ =>
    have e : numL [a] = a.toNat := by show 0 * 256 + a.toNat = a.toNat; omega
    rw [e]
    exact number_one a w
  | [a, b], _ =>
    have e : numL [a, b] = a.toNat * 256 + b.toNat := by show (0 * 256 + a.toNat) * 256 + b.toNat = _; omega
    rw [e]
    exact number_two a b w
theorem HasR.apart9 {w : World} {b b' : Nat} {t t' : TypeId} {cs cs' : Array Value} (h : HasR w b t cs) (h' : HasR w b' t' cs') (hne : t ≠ t') : b ≠ b' := by
  intro e
  subst e
  unfold HasR at h h'
  rw [h] at h'
  injection h' with h1
  injection h1 with _ h2
  exact hne h2
/-- While the parts are taken. -/
structure Cu (w0 w : World) (b0 b1 b2 : Nat) (l : List UInt8) (cs : Array Value) : Prop where
  box : HasR w b0 9 #[.string (tx l)]
  res : HasR w b1 23 #[.int .i64 0, .string ⟨#[]⟩, .int .i64 0, .string ⟨#[]⟩, .string ⟨#[]⟩]
  rec_ : HasR w b2 23 cs
  ne : b1 ≠ b2
  low0 : w0.heap.size ≤ b0
  low2 : w0.heap.size ≤ b2
  bel : Below w0.heap.size w0 w
theorem Cu.take {w0 w : World} {b0 b1 b2 : Nat} {l : List UInt8} {cs : Array Value} (h : Cu w0 w b0 b1 b2 l cs) (n : Nat) :
    Calls Tryd.prog 46 #[.int .i64 (n : Int), .pointer (some ⟨b0, 0, none⟩)] w fun x w' => x = .returned (.string (tx (l.take n))) ∧ Cu w0 w' b0 b1 b2 (l.drop n) cs := by
  refine (take_any b0 n l w h.box).mono ?_
  rintro x w' ⟨rfl, rfl⟩
  have st : Stirred [b0] w (w.setCell ⟨b0, 0, none⟩ (.string (tx (l.drop n)))) := Stirred.setCell w ⟨b0, 0, none⟩ _
  refine ⟨rfl, h.box.set 0 _, h.res.turned st (fun hm => ?_), h.rec_.turned st (fun hm => ?_), h.ne, h.low0, h.low2, h.bel.trans (st.below h.bel.size (fun j hj => by simp at hj; rw [hj]; exact h.low0))⟩
  · simp at hm; exact HasR.apart9 h.res h.box (by decide) hm
  · simp at hm; exact HasR.apart9 h.rec_ h.box (by decide) hm
theorem Cu.set {w0 w : World} {b0 b1 b2 : Nat} {l : List UInt8} {cs : Array Value} (h : Cu w0 w b0 b1 b2 l cs) (i : Nat) (v : Value) : Cu w0 (w.setCell ⟨b2, i, none⟩ v) b0 b1 b2 l (cs.setIfInBounds i v) := by
  have st : Stirred [b2] w (w.setCell ⟨b2, i, none⟩ v) := Stirred.setCell w ⟨b2, i, none⟩ _
  refine ⟨h.box.turned st (fun hm => ?_), h.res.turned st (fun hm => ?_), h.rec_.set i v, h.ne, h.low0, h.low2, h.bel.trans (st.below h.bel.size (fun j hj => by simp at hj; rw [hj]; exact h.low2))⟩
  · simp at hm; exact HasR.apart9 h.box h.rec_ (by decide) hm
  · simp at hm; exact h.ne hm
theorem take_le (l : List UInt8) (n : Nat) : (l.take n).length ≤ n := List.length_take_le _ _
set_option maxRecDepth 100000 in
set_option maxHeartbeats 4000000 in
theorem cut_any (l : List UInt8) (w : World) : Calls Tryd.prog 38 #[.string (tx l)] w fun x w' => x = .returned (.agg #[.int .i64 (((cutL l).q : Nat) : Int), .string (cutL l).s, .int .i64 (((cutL l).g : Nat) : Int), .string (cutL l).p, .string (cutL l).d]) ∧ Below w.heap.size w w' := by
  have eg : ∀ args w, (callFunc 46 args).run Tryd.prog w = .ok (.enter 46 args) w := enters_of Tryd.func46 (by kernel_rfl) rfl
  have z := ((Below.refl _ w).alloc (Nat.le_refl _) (.cells #[.string (tx l)] 9)).alloc (by simp) (.cells #[.int .i64 0, .string ⟨#[]⟩, .int .i64 0, .string ⟨#[]⟩, .string ⟨#[]⟩] 23)
  have z2 := z.alloc (by simp; omega) (.cells #[.int .i64 0, .string ⟨#[]⟩, .int .i64 0, .string ⟨#[]⟩, .string ⟨#[]⟩] 23)
  have x0 := ((HasR.new w 9 #[.string (tx l)]).alloc (.cells #[.int .i64 0, .string ⟨#[]⟩, .int .i64 0, .string ⟨#[]⟩, .string ⟨#[]⟩] 23)).alloc (.cells #[.int .i64 0, .string ⟨#[]⟩, .int .i64 0, .string ⟨#[]⟩, .string ⟨#[]⟩] 23)
  have x1 := (HasR.new (w.alloc (.cells #[.string (tx l)] 9)) 23 #[.int .i64 0, .string ⟨#[]⟩, .int .i64 0, .string ⟨#[]⟩, .string ⟨#[]⟩]).alloc (.cells #[.int .i64 0, .string ⟨#[]⟩, .int .i64 0, .string ⟨#[]⟩, .string ⟨#[]⟩] 23)
  have x2 := HasR.new ((w.alloc (.cells #[.string (tx l)] 9)).alloc (.cells #[.int .i64 0, .string ⟨#[]⟩, .int .i64 0, .string ⟨#[]⟩, .string ⟨#[]⟩] 23)) 23 #[.int .i64 0, .string ⟨#[]⟩, .int .i64 0, .string ⟨#[]⟩, .string ⟨#[]⟩]
  rw [World.size_alloc] at x1
  rw [World.size_alloc, World.size_alloc] at x2
  have C0 := hide (Cu.mk (w0 := w) x0 x1 x2 (by omega) (Nat.le_refl _) (by omega) z2)
  clear z z2 x0 x1 x2
  unfold cutL
  simp only
  obtain ⟨l1, hl1⟩ : ∃ x, x = l.drop 16 := ⟨_, rfl⟩
  obtain ⟨l2, hl2⟩ : ∃ x, x = l1.drop 1 := ⟨_, rfl⟩
  obtain ⟨l3, hl3⟩ : ∃ x, x = l2.drop 1 := ⟨_, rfl⟩
  obtain ⟨n, hn⟩ : ∃ x, x = numL (l2.take 1) := ⟨_, rfl⟩
  obtain ⟨l4, hl4⟩ : ∃ x, x = l3.drop n := ⟨_, rfl⟩
  obtain ⟨l5, hl5⟩ : ∃ x, x = l4.drop 1 := ⟨_, rfl⟩
  obtain ⟨l6, hl6⟩ : ∃ x, x = l5.drop 16 := ⟨_, rfl⟩
  obtain ⟨l7, hl7⟩ : ∃ x, x = l6.drop 2 := ⟨_, rfl⟩
  obtain ⟨m, hm⟩ : ∃ x, x = numL (l6.take 2) := ⟨_, rfl⟩
  obtain ⟨q, hq⟩ : ∃ x, x = numL (l1.take 1) := ⟨_, rfl⟩
  obtain ⟨g, hg⟩ : ∃ x, x = numL (l4.take 1) := ⟨_, rfl⟩
  rw [← hl1, ← hl2, ← hl3, ← hn, ← hl4, ← hl5, ← hl6, ← hl7, ← hm, ← hq, ← hg]
  have HL1 := hide hl1
  have HL2 := hide hl2
  have HL3 := hide hl3
  have HN := hide hn
  have HL4 := hide hl4
  have HL5 := hide hl5
  have HL6 := hide hl6
  have HL7 := hide hl7
  have HM := hide hm
  have HQ := hide hq
  have HG := hide hg
  clear hl1 hl2 hl3 hn hl4 hl5 hl6 hl7 hm hq hg
  go_enter Tryd.func38, Tryd.ntmps38
  go_upto_region 3 with fail
  generalize ((w.alloc (.cells #[.string (tx l)] 9)).alloc (.cells #[.int .i64 0, .string ⟨#[]⟩, .int .i64 0, .string ⟨#[]⟩, .string ⟨#[]⟩] 23)).alloc (.cells #[.int .i64 0, .string ⟨#[]⟩, .int .i64 0, .string ⟨#[]⟩, .string ⟨#[]⟩] 23) = W0 at C0 ⊢
  have T0 := hide (C0.out.take 16)
  rw [← HL1.out, show ((16 : Nat) : Int) = 16 from rfl] at T0
  go_upto_region 4 with (go_at_fn 46; (with_reducible refine T0.out.mono ?_); rintro y w1 ⟨rfl, hC⟩; have C1 := hide hC; clear hC)
  have T1 := hide (C1.out.take 1)
  rw [← HL2.out, show ((1 : Nat) : Int) = 1 from rfl] at T1
  have N1 := hide (fun wx => number_any (l1.take 1) wx (Nat.le_trans (take_le _ _) (by omega)))
  rw [← HQ.out] at N1
  go_upto_region 5 with (first
    | (go_at_fn 46; (with_reducible refine T1.out.mono ?_); rintro y w2 ⟨rfl, hC⟩; have C2 := hide hC; have k2 : w2.cell? ⟨w.heap.size + 1 + 1, 0, none⟩ = some (.int .i64 0) := C2.out.rec_.cell 0; have f2 : w2.frozen? ⟨w.heap.size + 1 + 1, 0, none⟩ = false := C2.out.rec_.free 0; clear hC)
    | (go_at_call 47; (with_reducible refine (N1.out _).mono ?_); rintro y w3 ⟨rfl, hw3⟩; obtain rfl := hw3.symm))
  have C3 := hide (C2.out.set 0 (.int .i64 (q : Int)))
  clear T0 T1 N1 k2 f2 C1 C2
  generalize w2.setCell ⟨w.heap.size + 1 + 1, 0, none⟩ (.int .i64 (q : Int)) = w4 at C3 ⊢
  have T4 := hide (C3.out.take 1)
  rw [← HL3.out, show ((1 : Nat) : Int) = 1 from rfl] at T4
  have N4 := hide (fun wx => number_any (l2.take 1) wx (Nat.le_trans (take_le _ _) (by omega)))
  rw [← HN.out] at N4
  have T5 := hide (fun wx (h : Cu w wx w.heap.size (w.heap.size + 1) (w.heap.size + 1 + 1) l3 (#[.int .i64 0, .string ⟨#[]⟩, .int .i64 0, .string ⟨#[]⟩, .string ⟨#[]⟩].setIfInBounds 0 (.int .i64 (q : Int)))) => h.take n)
  rw [← HL4.out] at T5
  go_upto_region 6 with (first
    | (go_at_fn 46; (with_reducible refine T4.out.mono ?_); rintro y w5 ⟨rfl, hC⟩; have C5 := hide hC; have T5' := hide (T5.out _ hC); clear hC)
    | (go_at_call 47; (with_reducible refine (N4.out _).mono ?_); rintro y w6 ⟨rfl, hw6⟩; obtain rfl := hw6.symm)
    | (go_at_fn 46; (with_reducible refine T5'.out.mono ?_); rintro y w7 ⟨rfl, hC⟩; have C7 := hide hC; have k7 : w7.cell? ⟨w.heap.size + 1 + 1, 1, none⟩ = some (.string ⟨#[]⟩) := C7.out.rec_.cell 1; have f7 : w7.frozen? ⟨w.heap.size + 1 + 1, 1, none⟩ = false := C7.out.rec_.free 1; clear hC))
  have C8 := hide (C7.out.set 1 (.string (tx (l3.take n))))
  clear T4 N4 T5 T5' C5 C7 k7 f7 C3
  generalize w7.setCell ⟨w.heap.size + 1 + 1, 1, none⟩ (.string (tx (l3.take n))) = w8 at C8 ⊢
  have T8 := hide (C8.out.take 1)
  rw [← HL5.out, show ((1 : Nat) : Int) = 1 from rfl] at T8
  have N8 := hide (fun wx => number_any (l4.take 1) wx (Nat.le_trans (take_le _ _) (by omega)))
  rw [← HG.out] at N8
  go_upto_region 7 with (first
    | (go_at_fn 46; (with_reducible refine T8.out.mono ?_); rintro y w9 ⟨rfl, hC⟩; have C9 := hide hC; have k9 : w9.cell? ⟨w.heap.size + 1 + 1, 2, none⟩ = some (.int .i64 0) := C9.out.rec_.cell 2; have f9 : w9.frozen? ⟨w.heap.size + 1 + 1, 2, none⟩ = false := C9.out.rec_.free 2; clear hC)
    | (go_at_call 47; (with_reducible refine (N8.out _).mono ?_); rintro y w10 ⟨rfl, hw10⟩; obtain rfl := hw10.symm))
  have C10 := hide (C9.out.set 2 (.int .i64 (g : Int)))
  clear T8 N8 C9 k9 f9 C8
  generalize w9.setCell ⟨w.heap.size + 1 + 1, 2, none⟩ (.int .i64 (g : Int)) = w11 at C10 ⊢
  have T11 := hide (C10.out.take 16)
  rw [← HL6.out, show ((16 : Nat) : Int) = 16 from rfl] at T11
  go_upto_region 8 with (go_at_fn 46; (with_reducible refine T11.out.mono ?_); rintro y w12 ⟨rfl, hC⟩; have C12 := hide hC; have k12 : w12.cell? ⟨w.heap.size + 1 + 1, 3, none⟩ = some (.string ⟨#[]⟩) := C12.out.rec_.cell 3; have f12 : w12.frozen? ⟨w.heap.size + 1 + 1, 3, none⟩ = false := C12.out.rec_.free 3; clear hC)
  have C13 := hide (C12.out.set 3 (.string (tx (l5.take 16))))
  clear T11 C12 k12 f12 C10
  generalize w12.setCell ⟨w.heap.size + 1 + 1, 3, none⟩ (.string (tx (l5.take 16))) = w13 at C13 ⊢
  have T13 := hide (C13.out.take 2)
  rw [← HL7.out, show ((2 : Nat) : Int) = 2 from rfl] at T13
  have N13 := hide (fun wx => number_any (l6.take 2) wx (Nat.le_trans (take_le _ _) (by omega)))
  rw [← HM.out] at N13
  have T14 := hide (fun wx cs (h : Cu w wx w.heap.size (w.heap.size + 1) (w.heap.size + 1 + 1) l7 cs) => h.take m)
  go_upto_region 9 with (first
    | (go_at_fn 46; (with_reducible refine T13.out.mono ?_); rintro y w14 ⟨rfl, hC⟩; have C14 := hide hC; have T14' := hide (T14.out _ _ hC); clear hC)
    | (go_at_call 47; (with_reducible refine (N13.out _).mono ?_); rintro y w15 ⟨rfl, hw15⟩; obtain rfl := hw15.symm)
    | (go_at_fn 46; (with_reducible refine T14'.out.mono ?_); rintro y w16 ⟨rfl, hC⟩; have C16 := hide hC; have k16 : w16.cell? ⟨w.heap.size + 1 + 1, 4, none⟩ = some (.string ⟨#[]⟩) := C16.out.rec_.cell 4; have f16 : w16.frozen? ⟨w.heap.size + 1 + 1, 4, none⟩ = false := C16.out.rec_.free 4; clear hC))
  have C17 := hide (C16.out.set 4 (.string (tx (l7.take m))))
  clear T13 N13 T14 T14' C14 C16 k16 f16 C13
  generalize w16.setCell ⟨w.heap.size + 1 + 1, 4, none⟩ (.string (tx (l7.take m))) = w17 at C17 ⊢
  have r0 : w17.cell? ⟨w.heap.size + 1 + 1, 0, none⟩ = some (.int .i64 (q : Int)) := C17.out.rec_.cell 0
  have r1 : w17.cell? ⟨w.heap.size + 1 + 1, 1, none⟩ = some (.string (tx (l3.take n))) := C17.out.rec_.cell 1
  have r2 : w17.cell? ⟨w.heap.size + 1 + 1, 2, none⟩ = some (.int .i64 (g : Int)) := C17.out.rec_.cell 2
  have r3 : w17.cell? ⟨w.heap.size + 1 + 1, 3, none⟩ = some (.string (tx (l5.take 16))) := C17.out.rec_.cell 3
  have r4 : w17.cell? ⟨w.heap.size + 1 + 1, 4, none⟩ = some (.string (tx (l7.take m))) := C17.out.rec_.cell 4
  have t0 : w17.cell? ⟨w.heap.size + 1, 0, none⟩ = some (.int .i64 0) := C17.out.res.cell 0
  have t1 : w17.cell? ⟨w.heap.size + 1, 1, none⟩ = some (.string ⟨#[]⟩) := C17.out.res.cell 1
  have t2 : w17.cell? ⟨w.heap.size + 1, 2, none⟩ = some (.int .i64 0) := C17.out.res.cell 2
  have t3 : w17.cell? ⟨w.heap.size + 1, 3, none⟩ = some (.string ⟨#[]⟩) := C17.out.res.cell 3
  have t4 : w17.cell? ⟨w.heap.size + 1, 4, none⟩ = some (.string ⟨#[]⟩) := C17.out.res.cell 4
  have u0 : w17.frozen? ⟨w.heap.size + 1, 0, none⟩ = false := C17.out.res.free 0
  have u1 : w17.frozen? ⟨w.heap.size + 1, 1, none⟩ = false := C17.out.res.free 1
  have u2 : w17.frozen? ⟨w.heap.size + 1, 2, none⟩ = false := C17.out.res.free 2
  have u3 : w17.frozen? ⟨w.heap.size + 1, 3, none⟩ = false := C17.out.res.free 3
  have u4 : w17.frozen? ⟨w.heap.size + 1, 4, none⟩ = false := C17.out.res.free 4
  have XR := hide (HasR.five C17.out.res (.int .i64 (q : Int)) (.string (tx (l3.take n))) (.int .i64 (g : Int)) (.string (tx (l5.take 16))) (.string (tx (l7.take m))))
  have BR := hide (C17.out.bel.trans ((stir5 w17 (w.heap.size + 1) (.int .i64 (q : Int)) (.string (tx (l3.take n))) (.int .i64 (g : Int)) (.string (tx (l5.take 16))) (.string (tx (l7.take m)))).below C17.out.bel.size (fun j hj => by simp at hj; omega)))
  go_wp2
  exact bodyPost_ret (v := .agg #[.int .i64 (q : Int), .string (tx (l3.take n)), .int .i64 (g : Int), .string (tx (l5.take 16)), .string (tx (l7.take m))]) (results_cell_row Tryd.results38 _ _ (w.heap.size + 1) 23 #[.int .i64 (q : Int), .string (tx (l3.take n)), .int .i64 (g : Int), .string (tx (l5.take 16)), .string (tx (l7.take m))] (0, 0) _ rfl XR.out Tryd.underlying23 rfl (by kernel_rfl)) rfl ⟨rfl, BR.out⟩
end Go.Proofs.YtjobghphjkeohaaDoor

/- A record written: the program's Right and Write. -/
namespace Go.Proofs.YtjobghphjkeohaaDoor
open Go.RowKit
attribute [local go_sem ↓] Go.wp_at_zero Go.wp_at_succ
set_option maxRecDepth 100000 in
set_option maxHeartbeats 4000000 in
/-- May it be written? Whatever its numbers. -/
theorem rightI_any (q : Int) (s : ByteArray) (g : Int) (p d : ByteArray) (w : World) :
    Calls Tryd.prog 9 #[.agg #[.int .i64 q, .string s, .int .i64 g, .string p, .string d]] w fun x w' => x = .returned (.bool (rightI q s g p d)) ∧ Below w.heap.size w w' := by
  have N := hide (fun wx => name_any s wx)
  have bel : Below w.heap.size w (w.alloc (.cells #[.int .i64 q, .string s, .int .i64 g, .string p, .string d] 23)) := (Below.refl _ w).alloc (Nat.le_refl _) _
  have BL := hide bel
  clear bel
  unfold rightI
  generalize nameB s.data.toList = b3 at N ⊢
  by_cases h1 : 1 ≤ q
  · by_cases h2 : q ≤ 100
    · cases b3 with
      | false =>
        have d1 : decide (1 ≤ q) = true := decide_eq_true h1
        have d2 : decide (q ≤ 100) = true := decide_eq_true h2
        rw [d1, d2]
        go_enter Tryd.func9, Tryd.ntmps9
        go_wp2_with (go_at_call 23; (with_reducible refine (N.out _).mono ?_); rintro y w1 ⟨rfl, hw1⟩; obtain rfl := hw1.symm)
        go_ret
        exact ⟨rfl, BL.out⟩
      | true =>
        by_cases h4 : 0 ≤ g
        · by_cases h5 : g ≤ 100
          · by_cases h6 : p.size = 16
            · have d1 : decide (1 ≤ q) = true := decide_eq_true h1
              have d2 : decide (q ≤ 100) = true := decide_eq_true h2
              have d4 : decide (0 ≤ g) = true := decide_eq_true h4
              have d5 : decide (g ≤ 100) = true := decide_eq_true h5
              have d6 : decide (p.size = 16) = true := decide_eq_true h6
              have d8 : ((p.size : Int) == 16) = true := by simp; omega
              rw [d1, d2, d4, d5, d6]
              clear h6
              go_enter Tryd.func9, Tryd.ntmps9
              go_wp2_with (go_at_call 23; (with_reducible refine (N.out _).mono ?_); rintro y w1 ⟨rfl, hw1⟩; obtain rfl := hw1.symm)
              go_ret
              have d7 : decide ((d.size : Int) ≤ 416) = decide (d.size ≤ 416) := by
                by_cases h7 : d.size ≤ 416
                · rw [decide_eq_true h7, decide_eq_true (by omega)]
                · rw [decide_eq_false h7, decide_eq_false (by omega)]
              refine ⟨ret_val ?_, BL.out⟩
              rw [← d7]
              rfl
            · have d1 : decide (1 ≤ q) = true := decide_eq_true h1
              have d2 : decide (q ≤ 100) = true := decide_eq_true h2
              have d4 : decide (0 ≤ g) = true := decide_eq_true h4
              have d5 : decide (g ≤ 100) = true := decide_eq_true h5
              have d6 : decide (p.size = 16) = false := decide_eq_false h6
              have d8 : ((p.size : Int) == 16) = false := by rw [beq_eq_false_iff_ne]; omega
              rw [d1, d2, d4, d5, d6]
              clear h6
              go_enter Tryd.func9, Tryd.ntmps9
              go_wp2_with (go_at_call 23; (with_reducible refine (N.out _).mono ?_); rintro y w1 ⟨rfl, hw1⟩; obtain rfl := hw1.symm)
              go_ret
              exact ⟨rfl, BL.out⟩
          · have d1 : decide (1 ≤ q) = true := decide_eq_true h1
            have d2 : decide (q ≤ 100) = true := decide_eq_true h2
            have d4 : decide (0 ≤ g) = true := decide_eq_true h4
            have d5 : decide (g ≤ 100) = false := decide_eq_false h5
            rw [d1, d2, d4, d5]
            go_enter Tryd.func9, Tryd.ntmps9
            go_wp2_with (go_at_call 23; (with_reducible refine (N.out _).mono ?_); rintro y w1 ⟨rfl, hw1⟩; obtain rfl := hw1.symm)
            go_ret
            exact ⟨rfl, BL.out⟩
        · have d1 : decide (1 ≤ q) = true := decide_eq_true h1
          have d2 : decide (q ≤ 100) = true := decide_eq_true h2
          have d4 : decide (0 ≤ g) = false := decide_eq_false h4
          rw [d1, d2, d4]
          go_enter Tryd.func9, Tryd.ntmps9
          go_wp2_with (go_at_call 23; (with_reducible refine (N.out _).mono ?_); rintro y w1 ⟨rfl, hw1⟩; obtain rfl := hw1.symm)
          go_ret
          exact ⟨rfl, BL.out⟩
    · have d1 : decide (1 ≤ q) = true := decide_eq_true h1
      have d2 : decide (q ≤ 100) = false := decide_eq_false h2
      rw [d1, d2]
      go_enter Tryd.func9, Tryd.ntmps9
      go_wp2
      go_ret
      exact ⟨rfl, BL.out⟩
  · have d1 : decide (1 ≤ q) = false := decide_eq_false h1
    rw [d1]
    go_enter Tryd.func9, Tryd.ntmps9
    go_wp2
    go_ret
    exact ⟨rfl, BL.out⟩
set_option maxRecDepth 100000 in
set_option maxHeartbeats 1000000 in
/-- What may not be is not written. -/
theorem write_bad (q : Int) (s : ByteArray) (g : Int) (p d : ByteArray) (w : World) (h : rightI q s g p d = false) :
    Calls Tryd.prog 7 #[.agg #[.int .i64 q, .string s, .int .i64 g, .string p, .string d]] w fun x w' => x = .returned (.tuple #[.string ⟨#[]⟩, .iface 27 (.int .i64 1)]) ∧ Below w.heap.size w w' := by
  have bel : Below w.heap.size w (w.alloc (.cells #[.int .i64 q, .string s, .int .i64 g, .string p, .string d] 23)) := (Below.refl _ w).alloc (Nat.le_refl _) _
  have R0 := rightI_any q s g p d (w.alloc (.cells #[.int .i64 q, .string s, .int .i64 g, .string p, .string d] 23))
  rw [h] at R0
  have R := hide R0
  have BL := hide bel
  clear bel R0 h
  go_enter Tryd.func7, Tryd.ntmps7
  go_wp2_with (go_at_call 9; (with_reducible refine R.out.mono ?_); rintro y w1 ⟨rfl, hb1⟩)
  go_ret2
  exact ⟨rfl, BL.out.trans (hb1.mono BL.out.size)⟩
theorem bytesV_u8 (l : List UInt8) (n : Nat) : bytesV l ++ [Value.int .u8 ((n : Int) % 256)] = bytesV (l ++ [u8 n]) := by
  rw [bytesV_app]
  congr 1
theorem bytesV_u82 (l : List UInt8) (n m : Nat) : bytesV l ++ [Value.int .u8 ((n : Int) % 256), Value.int .u8 ((m : Int) % 256)] = bytesV (l ++ [u8 n, u8 m]) := by
  rw [bytesV_app]
  congr 1
theorem bytesV_b (l : List UInt8) {n : Nat} (h : n < 256) : bytesV l ++ [Value.int .u8 (n : Int)] = bytesV (l ++ [u8 n]) := by
  rw [← bytesV_u8, show (n : Int) % 256 = (n : Int) by omega]
theorem bytesV_b2 (l : List UInt8) {n m : Nat} (h : n < 256) (h2 : m < 256) : bytesV l ++ [Value.int .u8 (n : Int), Value.int .u8 (m : Int)] = bytesV (l ++ [u8 n, u8 m]) := by
  rw [← bytesV_u82, show (n : Int) % 256 = (n : Int) by omega, show (m : Int) % 256 = (m : Int) by omega]
theorem bytesV_size (l : List UInt8) {n : Nat} (h : n < 65536) : bytesV l ++ [Value.int .u8 ((n : Int) / 256), Value.int .u8 ((n : Int) % 256)] = bytesV (l ++ sizeL n) := by
  have h1 : (n : Int) / 256 = ((n / 256 : Nat) : Int) := by omega
  have h2 : (n : Int) % 256 = ((n % 256 : Nat) : Int) := by omega
  rw [h1, h2]
  exact bytesV_b2 l (by omega) (by omega)
theorem one_byte (a : Int) : ∀ u ∈ [Value.int .u8 a], u.oneCell' = true := by
  intro u hu
  simp at hu
  rw [hu]; rfl
theorem two_bytes (a b : Int) : ∀ u ∈ [Value.int .u8 a, Value.int .u8 b], u.oneCell' = true := by
  intro u hu
  simp at hu
  rcases hu with hu | hu <;> rw [hu] <;> rfl
set_option maxRecDepth 100000 in
set_option maxHeartbeats 4000000 in
/-- What may be is written. -/
theorem write_ok (r : Rec) (h : RightR r) (w : World) (hK : TabK w) :
    Calls Tryd.prog 7 #[.agg #[.int .i64 (r.q : Int), .string r.s, .int .i64 (r.g : Int), .string r.p, .string r.d]] w fun x w' => x = .returned (.tuple #[.string (tx (wireL r)), .nilIface]) ∧ Below w.heap.size w w' := by
  obtain ⟨i5, hE⟩ := elemB
  have hs10 := nameB_len h.s
  have fit : Fit r := ⟨by have := h.q2; omega, by have := h.g; omega, by omega, by have := h.p; omega, by have := h.d; omega⟩
  have bel : Below w.heap.size w (w.alloc (.cells #[.int .i64 (r.q : Int), .string r.s, .int .i64 (r.g : Int), .string r.p, .string r.d] 23)) := (Below.refl _ w).alloc (Nat.le_refl _) _
  have E0 := hide (HasR.new w 23 #[.int .i64 (r.q : Int), .string r.s, .int .i64 (r.g : Int), .string r.p, .string r.d])
  have BL := hide bel
  have KK := hide (fun wx (hb : Below w.heap.size w wx) => hK.below hb hK.lt)
  have R := hide (fun wx => (by have := rightI_any r.q r.s r.g r.p r.d wx; rw [show rightI r.q r.s r.g r.p r.d = true from rightRB_iff.2 h] at this; exact this : Calls Tryd.prog 9 #[.agg #[.int .i64 (r.q : Int), .string r.s, .int .i64 (r.g : Int), .string r.p, .string r.d]] wx fun x w' => x = .returned (.bool true) ∧ Below wx.heap.size wx w'))
  have MK := hide (fun wx (hk : TabK wx) => markRec_any r wx fit hk)
  have HMS := hide (markR_size r)
  have hp16 := h.p
  have hq100 := h.q2
  have hg100 := h.g
  have hd416 := h.d
  have HW : Hid (wireL r = (markR r).data.toList ++ (u8 r.q :: u8 r.s.size :: (r.s.data.toList ++ (u8 r.g :: (r.p.data.toList ++ (sizeL r.d.size ++ r.d.data.toList)))))) := rfl
  generalize markR r = ma at MK HMS HW
  generalize wireL r = WL at HW ⊢
  clear bel fit h hK
  obtain ⟨q, s, g, p, d⟩ := r
  simp only at *
  go_enter Tryd.func7, Tryd.ntmps7
  go_upto_region 1 with fail
  generalize w.alloc (.cells #[.int .i64 (q : Int), .string s, .int .i64 (g : Int), .string p, .string d] 23) = W1 at E0 BL ⊢
  have e0 : W1.cell? ⟨w.heap.size, 0, none⟩ = some (.int .i64 (q : Int)) := E0.out.cell 0
  have e1 : W1.cell? ⟨w.heap.size, 1, none⟩ = some (.string s) := E0.out.cell 1
  have e2 : W1.cell? ⟨w.heap.size, 2, none⟩ = some (.int .i64 (g : Int)) := E0.out.cell 2
  have e3 : W1.cell? ⟨w.heap.size, 3, none⟩ = some (.string p) := E0.out.cell 3
  have e4 : W1.cell? ⟨w.heap.size, 4, none⟩ = some (.string d) := E0.out.cell 4
  have lw := E0.out.lt
  have CC := hide (fun wx (hb : Below W1.heap.size W1 wx) => (show wx.cell? ⟨w.heap.size, 0, none⟩ = some (.int .i64 (q : Int)) ∧ wx.cell? ⟨w.heap.size, 1, none⟩ = some (.string s) ∧ wx.cell? ⟨w.heap.size, 2, none⟩ = some (.int .i64 (g : Int)) ∧ wx.cell? ⟨w.heap.size, 3, none⟩ = some (.string p) ∧ wx.cell? ⟨w.heap.size, 4, none⟩ = some (.string d) from ⟨(E0.out.below hb lw).cell 0, (E0.out.below hb lw).cell 1, (E0.out.below hb lw).cell 2, (E0.out.below hb lw).cell 3, (E0.out.below hb lw).cell 4⟩))
  go_upto_region 4 with (first
    | (go_at_call 9; (with_reducible refine (R.out _).mono ?_); rintro y w2 ⟨rfl, hb2⟩
       have B2 := hide hb2
       obtain ⟨a0, a1, a2, a3, a4⟩ := CC.out _ hb2
       have MD := hide (MK.out w2 (KK.out _ (BL.out.trans (hb2.mono BL.out.size))))
       clear hb2)
    | (go_at_call 21; (with_reducible refine MD.out.mono ?_); rintro y w3 ⟨rfl, hb3⟩
       have B3 := hide (B2.out.trans (hb3.mono B2.out.size))
       clear hb3)
    | ((with_reducible refine conv_in ma ?_ ?_); rfl; intro cap w4 hr4 hg4 hz4))
  have hsz3 := B3.out.size
  have R4 := hide (hr4.mono hsz3)
  have B4 := hide (B3.out.grown hg4 hsz3 (fun k e => by cases e))
  clear hr4 hg4
  have hma := HMS.out
  obtain ⟨a0, a1, a2, a3, a4⟩ := CC.out _ B4.out
  have hl4 := B4.out.size
  have n4 : ma.size + 2 ≤ 1000000 := by omega
  clear hma hz4
  go_upto_region 5 with (at_builtin; refine append_br 5 hE W1.heap.size _ ma.size (bytesV ma.data.toList) ⟨w4.heap.size, 0, none⟩ 2 2 [.int .u8 (q : Int), .int .u8 (s.size : Int)] rfl rfl (BRn.of (R4.out.alloc _)) rfl (by omega) (news_blk (HasR.new w4 5 #[.int .u8 (q : Int), .int .u8 (s.size : Int)])) (two_bytes _ _) n4 (by simp; omega) ?_; intro g5 cap5 w5 hr5 hg5 hl5 hb5; rw [bytesV_b2 _ (by omega) (by omega)] at hr5; have R5 := hide hr5; have B5 := hide ((B4.out.alloc hl4 (.cells #[.int .u8 (q : Int), .int .u8 (s.size : Int)] 5)).trans hb5); clear hr5 hg5 hl5 hb5)
  clear a0 a1 a2 a3 a4 R4
  obtain ⟨a0, a1, a2, a3, a4⟩ := CC.out _ B5.out
  have hl5 := B5.out.size
  have n5 : ma.size + 2 + s.size ≤ 1000000 := by have := HMS.out; omega
  go_upto_region 6 with (at_builtin; refine append_str hE W1.heap.size g5 (ma.size + 2) cap5 (ma.data.toList ++ [u8 q, u8 s.size]) s rfl rfl R5.out n5 hl5 ?_; intro g6 cap6 w6 hr6 hb6; have R6 := hide hr6; have B6 := hide (B5.out.trans hb6); clear hr6 hb6)
  clear a0 a1 a2 a3 a4 R5
  obtain ⟨a0, a1, a2, a3, a4⟩ := CC.out _ B6.out
  have hl6 := B6.out.size
  have n6 : ma.size + 2 + s.size + 1 ≤ 1000000 := by have := HMS.out; omega
  go_upto_region 7 with (at_builtin; refine append_br 5 hE W1.heap.size _ (ma.size + 2 + s.size) (bytesV (ma.data.toList ++ [u8 q, u8 s.size] ++ s.data.toList)) ⟨w6.heap.size, 0, none⟩ 1 1 [.int .u8 (g : Int)] rfl rfl (BRn.of (R6.out.alloc _)) rfl (by omega) (news_blk (HasR.new w6 5 #[.int .u8 (g : Int)])) (one_byte _) n6 (by simp; omega) ?_; intro g7 cap7 w7 hr7 hg7 hl7 hb7; rw [bytesV_b _ (by omega)] at hr7; have R7 := hide hr7; have B7 := hide ((B6.out.alloc hl6 (.cells #[.int .u8 (g : Int)] 5)).trans hb7); clear hr7 hg7 hl7 hb7)
  clear a0 a1 a2 a3 a4 R6
  obtain ⟨a0, a1, a2, a3, a4⟩ := CC.out _ B7.out
  have hl7 := B7.out.size
  have n7 : ma.size + 2 + s.size + 1 + p.size ≤ 1000000 := by have := HMS.out; omega
  have HP := hide hp16
  clear hp16
  go_upto_region 8 with (at_builtin; refine append_str hE W1.heap.size g7 (ma.size + 2 + s.size + 1) cap7 (ma.data.toList ++ [u8 q, u8 s.size] ++ s.data.toList ++ [u8 g]) p rfl rfl R7.out n7 hl7 ?_; intro g8 cap8 w8 hr8 hb8; have R8 := hide hr8; have B8 := hide (B7.out.trans hb8); clear hr8 hb8)
  clear a0 a1 a2 a3 a4 R7
  obtain ⟨a0, a1, a2, a3, a4⟩ := CC.out _ B8.out
  have hl8 := B8.out.size
  have n8 : ma.size + 2 + s.size + 1 + p.size + 2 ≤ 1000000 := by have := HMS.out; have := HP.out; omega
  go_upto_region 9 with (at_builtin; refine append_br 5 hE W1.heap.size _ (ma.size + 2 + s.size + 1 + p.size) (bytesV (ma.data.toList ++ [u8 q, u8 s.size] ++ s.data.toList ++ [u8 g] ++ p.data.toList)) ⟨w8.heap.size, 0, none⟩ 2 2 [.int .u8 ((d.size : Int) / 256), .int .u8 ((d.size : Int) % 256)] rfl rfl (BRn.of (R8.out.alloc _)) rfl (by omega) (news_blk (HasR.new w8 5 #[.int .u8 ((d.size : Int) / 256), .int .u8 ((d.size : Int) % 256)])) (two_bytes _ _) n8 (by simp; omega) ?_; intro g9 cap9 w9 hr9 hg9 hl9 hb9; rw [bytesV_size _ (by omega)] at hr9; have R9 := hide hr9; have B9 := hide ((B8.out.alloc hl8 (.cells #[.int .u8 ((d.size : Int) / 256), .int .u8 ((d.size : Int) % 256)] 5)).trans hb9); clear hr9 hg9 hl9 hb9)
  clear a0 a1 a2 a3 a4 R8
  obtain ⟨a0, a1, a2, a3, a4⟩ := CC.out _ B9.out
  have hl9 := B9.out.size
  have n9 : ma.size + 2 + s.size + 1 + p.size + 2 + d.size ≤ 1000000 := by have := HMS.out; have := HP.out; omega
  go_wp2_with (first
    | (at_builtin; refine append_str hE W1.heap.size g9 (ma.size + 2 + s.size + 1 + p.size + 2) cap9 (ma.data.toList ++ [u8 q, u8 s.size] ++ s.data.toList ++ [u8 g] ++ p.data.toList ++ sizeL d.size) d rfl rfl R9.out n9 hl9 ?_; intro g10 cap10 w10 hr10 hb10; have R10 := hide hr10; have B10 := hide (B9.out.trans hb10); clear hr10 hb10)
    | ((with_reducible refine conv_out g10 (ma.size + 2 + s.size + 1 + p.size + 2 + d.size) cap10 (ma.data.toList ++ [u8 q, u8 s.size] ++ s.data.toList ++ [u8 g] ++ p.data.toList ++ sizeL d.size ++ d.data.toList) ?_ R10.out ?_); rfl))
  go_ret2
  exact ⟨by rw [HW.out]; rfl, BL.out.trans (B10.out.mono BL.out.size)⟩
end Go.Proofs.YtjobghphjkeohaaDoor

/- The record that bytes begin with: the program's first and Parse. -/
namespace Go.Proofs.YtjobghphjkeohaaDoor
open Go.RowKit
attribute [local go_sem ↓] Go.wp_at_zero Go.wp_at_succ
/-- Does a text begin so? -/
def preB (s t : ByteArray) : Bool := decide (t.data.toList <+: s.data.toList)
set_option maxRecDepth 100000 in
set_option maxHeartbeats 1000000 in
theorem hasPrefixL_any (s t : ByteArray) (w : World) : Calls Tryd.prog 45 #[.string s, .string t] w fun x w' => x = .returned (.bool (preB s t)) ∧ w' = w := by
  have e1 : s.data.toList.length = s.size := rfl
  have e2 : t.data.toList.length = t.size := rfl
  by_cases h : t.size ≤ s.size
  · have hx : (s.extract 0 t.size).data.toList = s.data.toList.take t.size := by
      have := congrArg (fun b : ByteArray => b.data.toList) (tx_take s.data.toList t.size)
      exact this
    have hq : ((s.extract 0 t.size).toList == t.toList) = preB s t := by
      rw [ByteArray.toList_eq, ByteArray.toList_eq, hx]
      unfold preB
      by_cases hp : t.data.toList <+: s.data.toList
      · rw [decide_eq_true hp, beq_iff_eq]
        rw [← e2]
        exact (List.prefix_iff_eq_take.1 hp).symm
      · rw [decide_eq_false hp, beq_eq_false_iff_ne]
        intro e
        exact hp (by rw [← e]; exact List.take_prefix _ _)
    have d1 : (t.size : Int) ≤ (s.size : Int) := by omega
    generalize preB s t = b at hq ⊢
    clear hx e1 e2
    go_enter Tryd.func45, Tryd.ntmps45
    go_wp2
    go_ret
    exact ⟨rfl, rfl⟩
  · have hp : preB s t = false := by
      unfold preB
      rw [decide_eq_false]
      intro hp
      have := hp.length_le
      omega
    rw [hp]
    have d1 : ¬ (t.size : Int) ≤ (s.size : Int) := by omega
    clear e1 e2 hp
    go_enter Tryd.func45, Tryd.ntmps45
    go_wp2
    go_ret
    exact ⟨rfl, rfl⟩
set_option maxRecDepth 100000 in
set_option maxHeartbeats 1000000 in
theorem hasPrefix_any (s t : ByteArray) (w : World) : Calls Tryd.prog 37 #[.string s, .string t] w fun x w' => x = .returned (.bool (preB s t)) ∧ w' = w := by
  have H := hide (hasPrefixL_any s t w)
  go_enter Tryd.func37, Tryd.ntmps37
  go_wp2_with (go_at_call 45; (with_reducible refine H.out.mono ?_); rintro y w1 ⟨rfl, hw1⟩; obtain rfl := hw1.symm)
  go_ret
  exact ⟨rfl, rfl⟩
/-- What first tells. -/
def recV (r : Rec) : Value := .agg #[.int .i64 (r.q : Int), .string r.s, .int .i64 (r.g : Int), .string r.p, .string r.d]
def firstV (l : List UInt8) : Value := match firstL l with
  | some r => .tuple #[recV r, .int .i64 ((wireL r).length : Int)]
  | none => .tuple #[.agg #[.int .i64 0, .string ⟨#[]⟩, .int .i64 0, .string ⟨#[]⟩, .string ⟨#[]⟩], .int .i64 0]
theorem firstV_some {l : List UInt8} {r : Rec} (h : firstL l = some r) : firstV l = .tuple #[recV r, .int .i64 ((wireL r).length : Int)] := by unfold firstV; rw [h]
theorem firstV_none {l : List UInt8} (h : firstL l = none) : firstV l = .tuple #[.agg #[.int .i64 0, .string ⟨#[]⟩, .int .i64 0, .string ⟨#[]⟩, .string ⟨#[]⟩], .int .i64 0] := by unfold firstV; rw [h]
set_option maxRecDepth 100000 in
set_option maxHeartbeats 4000000 in
theorem first_any (l : List UInt8) (w : World) (hK : TabK w) : Calls Tryd.prog 27 #[.string (tx l)] w fun x w' => x = .returned (firstV l) ∧ Below w.heap.size w w' := by
  have bel : Below w.heap.size w (w.alloc (.cells #[.int .i64 0, .string ⟨#[]⟩, .int .i64 0, .string ⟨#[]⟩, .string ⟨#[]⟩] 23)) := (Below.refl _ w).alloc (Nat.le_refl _) _
  have X0 := hide (HasR.new w 23 #[.int .i64 0, .string ⟨#[]⟩, .int .i64 0, .string ⟨#[]⟩, .string ⟨#[]⟩])
  have BL := hide bel
  have C := hide (fun wx => cut_any l wx)
  have KK := hide (fun wx (hb : Below w.heap.size w wx) => hK.below hb hK.lt)
  clear bel hK
  cases hr : rightRB (cutL l)
  · have hf : firstL l = none := by unfold firstL; rw [if_neg (fun h => by rw [hr] at h; cases h.1)]
    rw [firstV_none hf]
    have WB := hide (fun wx => write_bad (cutL l).q (cutL l).s (cutL l).g (cutL l).p (cutL l).d wx hr)
    have hen : ∀ w : World, (binOp .neq 31 (.iface 27 (.int .i64 1)) .nilIface).run Tryd.prog w = .ok (.bool true) w := fun w => by kernel_rfl
    generalize cutL l = r at C WB
    clear hr hf
    go_enter Tryd.func27, Tryd.ntmps27
    go_upto_region 1 with fail
    generalize w.alloc (.cells #[.int .i64 0, .string ⟨#[]⟩, .int .i64 0, .string ⟨#[]⟩, .string ⟨#[]⟩] 23) = W1 at X0 BL ⊢
    go_wp2_with (first
      | (go_at_call 38; (with_reducible refine (C.out _).mono ?_); rintro y w2 ⟨rfl, hb2⟩; have B2 := hide hb2; clear hb2)
      | (go_at_call 7; (with_reducible refine (WB.out _).mono ?_); rintro y w3 ⟨rfl, hb3⟩; have B3 := hide (B2.out.trans (hb3.mono B2.out.size)); have X3 := hide (X0.out.below B3.out X0.out.lt); have t0 : w3.cell? ⟨w.heap.size, 0, none⟩ = some (.int .i64 0) := X3.out.cell 0; have t1 : w3.cell? ⟨w.heap.size, 1, none⟩ = some (.string ⟨#[]⟩) := X3.out.cell 1; have t2 : w3.cell? ⟨w.heap.size, 2, none⟩ = some (.int .i64 0) := X3.out.cell 2; have t3 : w3.cell? ⟨w.heap.size, 3, none⟩ = some (.string ⟨#[]⟩) := X3.out.cell 3; have t4 : w3.cell? ⟨w.heap.size, 4, none⟩ = some (.string ⟨#[]⟩) := X3.out.cell 4; have u0 : w3.frozen? ⟨w.heap.size, 0, none⟩ = false := X3.out.free 0; have u1 : w3.frozen? ⟨w.heap.size, 1, none⟩ = false := X3.out.free 1; have u2 : w3.frozen? ⟨w.heap.size, 2, none⟩ = false := X3.out.free 2; have u3 : w3.frozen? ⟨w.heap.size, 3, none⟩ = false := X3.out.free 3; have u4 : w3.frozen? ⟨w.heap.size, 4, none⟩ = false := X3.out.free 4; clear hb3))
    have TF := stir5 w3 w.heap.size (.int .i64 0) (.string ⟨#[]⟩) (.int .i64 0) (.string ⟨#[]⟩) (.string ⟨#[]⟩)
    have X5 := HasR.five X3.out (.int .i64 0) (.string ⟨#[]⟩) (.int .i64 0) (.string ⟨#[]⟩) (.string ⟨#[]⟩)
    generalize ((((w3.setCell ⟨w.heap.size, 0, none⟩ (.int .i64 0)).setCell ⟨w.heap.size, 1, none⟩ (.string ⟨#[]⟩)).setCell ⟨w.heap.size, 2, none⟩ (.int .i64 0)).setCell ⟨w.heap.size, 3, none⟩ (.string ⟨#[]⟩)).setCell ⟨w.heap.size, 4, none⟩ (.string ⟨#[]⟩) = w4 at TF X5 ⊢
    have z0 := X5.cell 0
    have z1 := X5.cell 1
    have z2 := X5.cell 2
    have z3 := X5.cell 3
    have z4 := X5.cell 4
    simp at z0 z1 z2 z3 z4
    have BW := BL.out.trans (B3.out.mono BL.out.size)
    refine bodyPost_ret (v := .tuple #[.agg #[.int .i64 0, .string ⟨#[]⟩, .int .i64 0, .string ⟨#[]⟩, .string ⟨#[]⟩], .int .i64 0]) (by simp [results, Tryd.results27, go_sem, z0, z1, z2, z3, z4]) rfl ⟨rfl, BW.trans (TF.below BW.size (fun j hj => by simp at hj; omega))⟩
  · have hR : RightR (cutL l) := rightRB_iff.1 hr
    have WO := hide (fun wx (hk : TabK wx) => write_ok (cutL l) hR wx hk)
    have HPX := hide (fun wx => hasPrefix_any (tx l) (tx (wireL (cutL l))) wx)
    have hpre : preB (tx l) (tx (wireL (cutL l))) = decide (wireL (cutL l) <+: l) := rfl
    rw [hpre] at HPX
    have hne : ∀ w : World, (binOp .neq 31 .nilIface .nilIface).run Tryd.prog w = .ok (.bool false) w := fun w => by kernel_rfl
    by_cases hp : wireL (cutL l) <+: l
    · have hf : firstL l = some (cutL l) := by unfold firstL; rw [if_pos ⟨hr, hp⟩]
      rw [firstV_some hf]
      rw [decide_eq_true hp] at HPX
      have hcw : cutL (wireL (cutL l)) = cutL l := by have := cut_wire hR []; rwa [List.append_nil] at this
      have C2 := hide (fun wx => cut_any (wireL (cutL l)) wx)
      rw [hcw] at C2
      have hsz : (tx (wireL (cutL l))).size = (wireL (cutL l)).length := rfl
      unfold recV
      generalize wireL (cutL l) = WL at WO HPX C2 hsz ⊢
      generalize cutL l = r at C WO C2 ⊢
      clear hr hR hpre hp hf hcw
      go_enter Tryd.func27, Tryd.ntmps27
      go_upto_region 1 with fail
      generalize w.alloc (.cells #[.int .i64 0, .string ⟨#[]⟩, .int .i64 0, .string ⟨#[]⟩, .string ⟨#[]⟩] 23) = W1 at X0 BL ⊢
      go_wp2_with (first
        | (go_at_call 38; (with_reducible refine (C.out _).mono ?_); rintro y w2 ⟨rfl, hb2⟩; have B2 := hide hb2; have WX := hide (WO.out w2 (KK.out _ (BL.out.trans (hb2.mono BL.out.size)))); clear hb2)
        | (go_at_call 7; (with_reducible refine WX.out.mono ?_); rintro y w3 ⟨rfl, hb3⟩; have B3 := hide (B2.out.trans (hb3.mono B2.out.size)); clear hb3)
        | (go_at_call 37; (with_reducible refine (HPX.out _).mono ?_); rintro y w4 ⟨rfl, hw4⟩; obtain rfl := hw4.symm)
        | (go_at_call 38; (with_reducible refine (C2.out _).mono ?_); rintro y w5 ⟨rfl, hb5⟩; have B5 := hide (B3.out.trans (hb5.mono B3.out.size)); have X3 := hide (X0.out.below B5.out X0.out.lt); have t0 : w5.cell? ⟨w.heap.size, 0, none⟩ = some (.int .i64 0) := X3.out.cell 0; have t1 : w5.cell? ⟨w.heap.size, 1, none⟩ = some (.string ⟨#[]⟩) := X3.out.cell 1; have t2 : w5.cell? ⟨w.heap.size, 2, none⟩ = some (.int .i64 0) := X3.out.cell 2; have t3 : w5.cell? ⟨w.heap.size, 3, none⟩ = some (.string ⟨#[]⟩) := X3.out.cell 3; have t4 : w5.cell? ⟨w.heap.size, 4, none⟩ = some (.string ⟨#[]⟩) := X3.out.cell 4; have u0 : w5.frozen? ⟨w.heap.size, 0, none⟩ = false := X3.out.free 0; have u1 : w5.frozen? ⟨w.heap.size, 1, none⟩ = false := X3.out.free 1; have u2 : w5.frozen? ⟨w.heap.size, 2, none⟩ = false := X3.out.free 2; have u3 : w5.frozen? ⟨w.heap.size, 3, none⟩ = false := X3.out.free 3; have u4 : w5.frozen? ⟨w.heap.size, 4, none⟩ = false := X3.out.free 4; clear hb5))
      have TF := stir5 w5 w.heap.size (.int .i64 (r.q : Int)) (.string r.s) (.int .i64 (r.g : Int)) (.string r.p) (.string r.d)
      have X5 := HasR.five X3.out (.int .i64 (r.q : Int)) (.string r.s) (.int .i64 (r.g : Int)) (.string r.p) (.string r.d)
      generalize ((((w5.setCell ⟨w.heap.size, 0, none⟩ (.int .i64 (r.q : Int))).setCell ⟨w.heap.size, 1, none⟩ (.string r.s)).setCell ⟨w.heap.size, 2, none⟩ (.int .i64 (r.g : Int))).setCell ⟨w.heap.size, 3, none⟩ (.string r.p)).setCell ⟨w.heap.size, 4, none⟩ (.string r.d) = w6 at TF X5 ⊢
      have z0 := X5.cell 0
      have z1 := X5.cell 1
      have z2 := X5.cell 2
      have z3 := X5.cell 3
      have z4 := X5.cell 4
      simp at z0 z1 z2 z3 z4
      have BW := BL.out.trans (B5.out.mono BL.out.size)
      refine bodyPost_ret (v := .tuple #[.agg #[.int .i64 (r.q : Int), .string r.s, .int .i64 (r.g : Int), .string r.p, .string r.d], .int .i64 (WL.length : Int)]) (by simp [results, Tryd.results27, go_sem, z0, z1, z2, z3, z4]) rfl ⟨rfl, BW.trans (TF.below BW.size (fun j hj => by simp at hj; omega))⟩
    · have hf : firstL l = none := by unfold firstL; rw [if_neg (fun h => hp h.2)]
      rw [firstV_none hf]
      rw [decide_eq_false hp] at HPX
      generalize wireL (cutL l) = WL at WO HPX ⊢
      generalize cutL l = r at C WO ⊢
      clear hr hR hpre hp hf
      go_enter Tryd.func27, Tryd.ntmps27
      go_upto_region 1 with fail
      generalize w.alloc (.cells #[.int .i64 0, .string ⟨#[]⟩, .int .i64 0, .string ⟨#[]⟩, .string ⟨#[]⟩] 23) = W1 at X0 BL ⊢
      go_wp2_with (first
        | (go_at_call 38; (with_reducible refine (C.out _).mono ?_); rintro y w2 ⟨rfl, hb2⟩; have B2 := hide hb2; have WX := hide (WO.out w2 (KK.out _ (BL.out.trans (hb2.mono BL.out.size)))); clear hb2)
        | (go_at_call 7; (with_reducible refine WX.out.mono ?_); rintro y w3 ⟨rfl, hb3⟩; have B3 := hide (B2.out.trans (hb3.mono B2.out.size)); have X3 := hide (X0.out.below B3.out X0.out.lt); have t0 : w3.cell? ⟨w.heap.size, 0, none⟩ = some (.int .i64 0) := X3.out.cell 0; have t1 : w3.cell? ⟨w.heap.size, 1, none⟩ = some (.string ⟨#[]⟩) := X3.out.cell 1; have t2 : w3.cell? ⟨w.heap.size, 2, none⟩ = some (.int .i64 0) := X3.out.cell 2; have t3 : w3.cell? ⟨w.heap.size, 3, none⟩ = some (.string ⟨#[]⟩) := X3.out.cell 3; have t4 : w3.cell? ⟨w.heap.size, 4, none⟩ = some (.string ⟨#[]⟩) := X3.out.cell 4; have u0 : w3.frozen? ⟨w.heap.size, 0, none⟩ = false := X3.out.free 0; have u1 : w3.frozen? ⟨w.heap.size, 1, none⟩ = false := X3.out.free 1; have u2 : w3.frozen? ⟨w.heap.size, 2, none⟩ = false := X3.out.free 2; have u3 : w3.frozen? ⟨w.heap.size, 3, none⟩ = false := X3.out.free 3; have u4 : w3.frozen? ⟨w.heap.size, 4, none⟩ = false := X3.out.free 4; clear hb3)
        | (go_at_call 37; (with_reducible refine (HPX.out _).mono ?_); rintro y w4 ⟨rfl, hw4⟩; obtain rfl := hw4.symm))
      have TF := stir5 w3 w.heap.size (.int .i64 0) (.string ⟨#[]⟩) (.int .i64 0) (.string ⟨#[]⟩) (.string ⟨#[]⟩)
      have X5 := HasR.five X3.out (.int .i64 0) (.string ⟨#[]⟩) (.int .i64 0) (.string ⟨#[]⟩) (.string ⟨#[]⟩)
      generalize ((((w3.setCell ⟨w.heap.size, 0, none⟩ (.int .i64 0)).setCell ⟨w.heap.size, 1, none⟩ (.string ⟨#[]⟩)).setCell ⟨w.heap.size, 2, none⟩ (.int .i64 0)).setCell ⟨w.heap.size, 3, none⟩ (.string ⟨#[]⟩)).setCell ⟨w.heap.size, 4, none⟩ (.string ⟨#[]⟩) = w4 at TF X5 ⊢
      have z0 := X5.cell 0
      have z1 := X5.cell 1
      have z2 := X5.cell 2
      have z3 := X5.cell 3
      have z4 := X5.cell 4
      simp at z0 z1 z2 z3 z4
      have BW := BL.out.trans (B3.out.mono BL.out.size)
      refine bodyPost_ret (v := .tuple #[.agg #[.int .i64 0, .string ⟨#[]⟩, .int .i64 0, .string ⟨#[]⟩, .string ⟨#[]⟩], .int .i64 0]) (by simp [results, Tryd.results27, go_sem, z0, z1, z2, z3, z4]) rfl ⟨rfl, BW.trans (TF.below BW.size (fun j hj => by simp at hj; omega))⟩
end Go.Proofs.YtjobghphjkeohaaDoor
