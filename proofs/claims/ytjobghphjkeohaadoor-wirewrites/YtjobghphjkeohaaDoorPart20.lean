/- Texts of this proof, one behind the other. -/
import Derived.Deep.QuietTactic
import Derived.BigQuiet
import Derived.Test.YtjobghphjkeohaaDoorPart19
/- Numbers of digits of 2^16: what the document's 'times' comes to. -/
namespace Go.Proofs.YtjobghphjkeohaaDoor
open Go.RowKit
/-- Words of 64 bits as cells. -/
def u64V (l : List Nat) : List Value := l.map fun (d : Nat) => Value.int .u64 (d : Int)
theorem u64V_len (l : List Nat) : (u64V l).length = l.length := by simp [u64V]
theorem u64V_snoc (l : List Nat) (d : Nat) : u64V l ++ [Value.int .u64 (d : Int)] = u64V (l ++ [d]) := by simp [u64V]
theorem one_u64 (n : Int) : ∀ u ∈ [Value.int .u64 n], u.oneCell' = true := by
  intro u hu; simp at hu; subst hu; rfl
theorem br_u64 {w : World} {base g n cap : Nat} {l : List Nat} (h : BR w base 54 g n cap (u64V l)) (i : Nat) (hi : i < n) : w.cell? ⟨g, i, none⟩ = some (.int .u64 ((l.getD i 0 : Nat) : Int)) := by
  have hl : l.length = n := by rw [← u64V_len, h.len]
  rw [h.cell i hi]
  simp [u64V, List.getElem?_eq_getElem (show i < l.length by omega)]
/-- The number that digits are, the least first. -/
def val : List Nat → Nat
  | [] => 0
  | d :: r => d + 65536 * val r
theorem val_snoc (l : List Nat) (d : Nat) : val (l ++ [d]) = val l + d * 65536 ^ l.length := by
  induction l with
  | nil => simp [val]
  | cons a r ih =>
    simp only [List.cons_append, val, ih, List.length_cons, Nat.pow_succ]
    rw [Nat.mul_add]
    have : 65536 * (d * 65536 ^ r.length) = d * (65536 ^ r.length * 65536) := by
      rw [Nat.mul_comm 65536, Nat.mul_assoc]
    omega
def small (l : List Nat) : Prop := ∀ d ∈ l, d < 65536
theorem small_snoc {l : List Nat} (h : small l) {d : Nat} (hd : d < 65536) : small (l ++ [d]) := by
  intro x hx
  simp at hx
  rcases hx with hx | rfl
  · exact h x hx
  · exact hd
theorem small_getD {l : List Nat} (h : small l) (i : Nat) : l.getD i 0 < 65536 := by
  rw [List.getD_eq_getElem?_getD]
  by_cases hi : i < l.length
  · rw [List.getElem?_eq_getElem hi]
    exact h _ (List.getElem_mem hi)
  · rw [List.getElem?_eq_none (by omega)]; simp
theorem take_snocD (l : List Nat) (i : Nat) (h : i < l.length) : l.take (i + 1) = l.take i ++ [l.getD i 0] := by
  rw [List.take_succ_eq_append_getElem h]
  simp [h]
/-- One step of the multiplication keeps the sum. -/
theorem times_low (l o : List Nat) (x c i : Nat) (hi : i < l.length) (ho : o.length = i) (h : val o + c * 65536 ^ i = val (l.take i) * x) :
    val (o ++ [(c + l.getD i 0 * x) % 65536]) + (c + l.getD i 0 * x) / 65536 * 65536 ^ (i + 1) = val (l.take (i + 1)) * x := by
  rw [val_snoc, take_snocD l i hi, val_snoc, ho]
  have hl : (l.take i).length = i := by rw [List.length_take]; omega
  rw [hl, Nat.add_mul, ← h]
  generalize l.getD i 0 = d
  have hm := Nat.mod_add_div (c + d * x) 65536
  generalize (c + d * x) % 65536 = r at hm ⊢
  generalize (c + d * x) / 65536 = q at hm ⊢
  have e : r * 65536 ^ i + q * 65536 ^ (i + 1) = (c + d * x) * 65536 ^ i := by
    rw [← hm, Nat.pow_succ, Nat.add_mul]
    congr 1
    rw [Nat.mul_comm 65536 q, Nat.mul_assoc, Nat.mul_comm 65536]
  rw [Nat.add_assoc, e, Nat.add_mul, ← Nat.add_assoc]
  congr 1
  rw [Nat.mul_assoc, Nat.mul_assoc, Nat.mul_comm x]
theorem times_high (o : List Nat) (V c i : Nat) (ho : o.length = i) (h : val o + c * 65536 ^ i = V) : val (o ++ [c % 65536]) + c / 65536 * 65536 ^ (i + 1) = V := by
  rw [val_snoc, ho, ← h]
  have hm := Nat.mod_add_div c 65536
  generalize c % 65536 = r at hm ⊢
  generalize c / 65536 = q at hm ⊢
  rw [← hm, Nat.pow_succ, Nat.add_mul, Nat.add_assoc]
  congr 2
  rw [Nat.mul_comm 65536 q, Nat.mul_assoc, Nat.mul_comm 65536]
theorem carry_low (c d x : Nat) (hc : c ≤ x) (hd : d < 65536) : (c + d * x) / 65536 ≤ x := by
  have h1 : d * x ≤ 65535 * x := Nat.mul_le_mul_right x (by omega)
  omega
theorem prod_bd (d x : Nat) (hd : d < 65536) (hx : x < 1099511627776) : d * x ≤ 72056494526300160 := by
  have h1 : d * x ≤ 65535 * 1099511627776 := Nat.mul_le_mul (by omega) (by omega)
  omega
theorem carry_high (c m : Nat) (h : c < 65536 ^ (m + 1)) : c / 65536 < 65536 ^ m := by
  rw [Nat.pow_succ] at h
  exact Nat.div_lt_of_lt_mul (by rw [Nat.mul_comm]; exact h)
set_option maxRecDepth 100000 in
set_option maxHeartbeats 1000000 in
theorem times_any (base g n cap : Nat) (l : List Nat) (x : Nat) (w : World) (hr : BR w base 54 g n cap (u64V l)) (hsm : small l) (hn1 : 1 ≤ n) (hn : n ≤ 100) (hx : x < 1099511627776) :
    Calls Tryd.prog 40 #[.slice (some ⟨g, 0, none⟩) n cap, .int .u64 x] w fun e w' => ∃ g' n' cap' l', e = .returned (.slice (some ⟨g', 0, none⟩) n' cap') ∧ BR w' w.heap.size 54 g' n' cap' (u64V l') ∧ small l' ∧ val l' = val l * x ∧ 1 ≤ n' ∧ n' ≤ n + 3 ∧ Below w.heap.size w w' := by
  obtain ⟨iu, hE⟩ := elemU
  have hll : l.length = n := by rw [← u64V_len, hr.len]
  have hgl := hr.lt
  go_enter Tryd.func40, Tryd.ntmps40
  go_wp2_with fail
  go_loopw [5, 6, 7] (fun t c i wr => ∃ (k : Nat) (o : List Nat) (cc : Nat), i = .int .i64 k ∧ c = .int .u64 (cc : Int) ∧ BRn wr w.heap.size 54 t k (u64V o) ∧ small o ∧ k ≤ n + 3 ∧ cc ≤ x ∧ val o + cc * 65536 ^ k = val (l.take k) * x ∧ (n ≤ k → cc < 65536 ^ (n + 3 - k)) ∧ Below w.heap.size w wr)
    (fun _ _ i _ => n + 3 - (intOf i).toNat)
  case atStart => exact ⟨0, [], 0, rfl, rfl, BRn.nil _ _ _, by intro d hd; simp at hd, by omega, by omega, by simp [val], fun _ => Nat.pow_pos (by omega), Below.refl _ _⟩
  case round =>
    obtain ⟨k, o, cc, rfl, rfl, ho, hso, hk, hcx, hval, hc3, hb⟩ := hrel
    have hol : o.length = k := by rw [← u64V_len, ho.len]
    have hbs := hb.size
    by_cases hlt : k < n
    · have hck := br_u64 (hr.below hb hgl) k hlt
      have hd := small_getD hsm k
      have hp := prod_bd (l.getD k 0) x hd hx
      have hcl := hide (carry_low cc (l.getD k 0) x hcx hd)
      have hvl := hide (times_low l o x cc k (by omega) hol hval)
      generalize l.getD k 0 = d at hck hd hp hcl hvl
      have hp1 : (0 : Int) ≤ (d : Int) * (x : Int) := Int.mul_nonneg (by omega) (by omega)
      have hp2 : (d : Int) * (x : Int) ≤ 72056494526300160 := by
        have h9 : ((d * x : Nat) : Int) ≤ 72056494526300160 := by omega
        simpa using h9
      have hb1 : decide ((k : Int) < (n : Int)) = true := by simp; omega
      have hel : ((cc : Int) + (d : Int) * (x : Int)) % 65536 = (((cc + d * x) % 65536 : Nat) : Int) := by simp
      have HEL := hide hel
      clear hval hc3 hel
      go_wp2_with (at_builtin; (refine append_br 54 hE w.heap.size _ k (u64V o) ⟨wr.heap.size, 0, none⟩ 1 1 [.int .u64 (((cc : Int) + (d : Int) * (x : Int)) % 65536)] rfl rfl (ho.alloc _) rfl (by omega) (news_one _ _) (one_u64 _) (by omega) (by simp; omega) ?_); intro g1 cap1 w' hb' hg' hl' hbel; rw [HEL.out, u64V_snoc] at hb')
      have hlast : n ≤ k + 1 → (cc + d * x) / 65536 < 65536 ^ (n + 3 - (k + 1)) := by
        intro hnk
        have e : n + 3 - (k + 1) = 3 := by omega
        rw [e]
        have h1 := hcl.out
        have h2 : (65536 : Nat) ^ 3 = 281474976710656 := by decide
        rw [h2]
        omega
      go_roundw
      case rel => exact ⟨k + 1, o ++ [(cc + d * x) % 65536], (cc + d * x) / 65536, by go_num, by simp, BRn.of hb', small_snoc hso (by omega), by omega, hcl.out, hvl.out, hlast, (hb.alloc hbs _).trans hbel⟩
      case measure => simp [intOf]; omega
    · have hkn : n ≤ k := by omega
      have hcb := hc3 hkn
      have hb1 : decide ((k : Int) < (n : Int)) = false := by simp; omega
      have htk : val (l.take k) = val l := by rw [List.take_of_length_le (by omega)]
      have htk1 : val (l.take (k + 1)) = val l := by rw [List.take_of_length_le (by omega)]
      by_cases hc0 : 0 < cc
      · have hk3 : k < n + 3 := by
          rcases Nat.lt_or_ge k (n + 3) with h | h
          · exact h
          · have e : n + 3 - k = 0 := by omega
            rw [e] at hcb; simp at hcb; omega
        have hcb' : cc < 65536 ^ (n + 3 - (k + 1) + 1) := by
          have e : n + 3 - (k + 1) + 1 = n + 3 - k := by omega
          rw [e]; exact hcb
        have hhi : cc / 65536 < 65536 ^ (n + 3 - (k + 1)) := carry_high cc (n + 3 - (k + 1)) hcb'
        clear hcb'
        have HHI := hide hhi
        have hvh := hide (times_high o _ cc k hol hval)
        rw [htk, ← htk1] at hvh
        have hb2 : decide ((0 : Int) < (cc : Int)) = true := by simp; omega
        have hel : (cc : Int) % 65536 = ((cc % 65536 : Nat) : Int) := by simp
        have HEL := hide hel
        clear hhi hel hval hc3 htk htk1 hcb
        go_wp2_with (at_builtin; (refine append_br 54 hE w.heap.size _ k (u64V o) ⟨wr.heap.size, 0, none⟩ 1 1 [.int .u64 ((cc : Int) % 65536)] rfl rfl (ho.alloc _) rfl (by omega) (news_one _ _) (one_u64 _) (by omega) (by simp; omega) ?_); intro g1 cap1 w' hb' hg' hl' hbel; rw [HEL.out, u64V_snoc] at hb')
        go_roundw
        case rel => exact ⟨k + 1, o ++ [cc % 65536], cc / 65536, by go_num, by simp, BRn.of hb', small_snoc hso (by omega), by omega, by omega, hvh.out, fun _ => HHI.out, (hb.alloc hbs _).trans hbel⟩
        case measure => simp [intOf]; omega
      · obtain rfl : cc = 0 := by omega
        have hv0 : val o = val l * x := by rw [← htk, ← hval]; omega
        rcases ho with ⟨_, h0, _⟩ | ⟨g1, cap1, rfl, hr1⟩
        · omega
        · clear hval hc3 htk htk1 hcb hcx
          go_wp2
          go_ret
          exact ⟨g1, k, cap1, o, rfl, hr1, hso, hv0, by omega, hk, hb⟩
end Go.Proofs.YtjobghphjkeohaaDoor

/- Which of two numbers is the greater: what the document's 'above' comes to. -/
namespace Go.Proofs.YtjobghphjkeohaaDoor
open Go.RowKit
theorem val_lt : ∀ (a b : List Nat) (m : Nat), a.length = b.length → small a → small b → m < a.length → (∀ i, m < i → i < a.length → a.getD i 0 = b.getD i 0) → a.getD m 0 < b.getD m 0 → val a < val b
  | [], _, m, _, _, _, hm, _, _ => absurd hm (by simp)
  | _ :: _, [], _, hl, _, _, _, _, _ => absurd hl (by simp)
  | x :: a, y :: b, m, hl, ha, hb, hm, he, hlt => by
    have hl' : a.length = b.length := by simpa using hl
    have hx : x < 65536 := ha x (by simp)
    have hy : y < 65536 := hb y (by simp)
    match m, hm, he, hlt with
    | 0, _, he, hlt =>
      have e : a = b := by
        apply List.ext_getElem hl'
        intro i h1 h2
        have := he (i + 1) (by omega) (by simp; omega)
        simpa [h1, h2] using this
      have hlt' : x < y := by simpa using hlt
      simp only [val]
      rw [e]; omega
    | m + 1, hm, he, hlt =>
      have ih := val_lt a b m hl' (fun d hd => ha d (by simp [hd])) (fun d hd => hb d (by simp [hd])) (by simpa using hm) (fun i h1 h2 => by
        have := he (i + 1) (by omega) (by simp; omega)
        simpa using this) (by simpa using hlt)
      simp only [val]
      omega
theorem val_eq (a b : List Nat) (hl : a.length = b.length) (he : ∀ i, i < a.length → a.getD i 0 = b.getD i 0) : val a = val b := by
  have e : a = b := by
    apply List.ext_getElem hl
    intro i h1 h2
    have := he i h1
    simpa [h1, h2] using this
  rw [e]
theorem val_zero (l : List Nat) : val (l ++ [0]) = val l := by rw [val_snoc]; omega
theorem val_repl (m p : Nat) : val (List.replicate m 0 ++ [p]) = p * 65536 ^ m := by
  rw [val_snoc, List.length_replicate]
  have e : ∀ m, val (List.replicate m 0) = 0 := by
    intro m
    induction m with
    | zero => rfl
    | succ m ih => simp [List.replicate_succ, val, ih]
  rw [e]; omega
theorem small_repl (m p : Nat) (hp : p < 65536) : small (List.replicate m 0 ++ [p]) := by
  intro d hd
  simp at hd
  omega
theorem lies {g n cap g' s : Nat} (h : (Value.slice (some ⟨g, 0, none⟩) n cap).ownBlock = some g' ∨ s ≤ g') : g = g' ∨ s ≤ g' := by
  simpa [Value.ownBlock] using h
theorem apart {g g' n cap : Nat} (h : g' ≠ g) : some g' ≠ (Value.slice (some ⟨g, 0, none⟩) n cap).ownBlock := by
  simpa [Value.ownBlock] using h
/-- Noughts as cells. -/
def zrow (m : Nat) : Array Value := (u64V (List.replicate m 0)).toArray
theorem make_zrow (k : Nat) (hk : k = 2 ∨ k = 3) (w : World) : (Instr.makeSlice 81 (.int .i64 (2 * (k : Int))) (.int .i64 (2 * (k : Int)))).run Tryd.prog w = .ok (.slice (some ⟨w.heap.size, 0, none⟩) (2 * k) (2 * k)) (w.alloc (.cells (zrow (2 * k)) 54)) := by
  rcases hk with rfl | rfl
  · kernel_rfl
  · kernel_rfl
theorem zrow_len (m : Nat) : (zrow m).size = m := by simp [zrow, u64V]
theorem br_zrow (w : World) (m : Nat) : BR (w.alloc (.cells (zrow m) 54)) w.heap.size 54 w.heap.size m m (u64V (List.replicate m 0)) :=
  ⟨by simp [u64V], Nat.le_refl _, Nat.le_refl _, _, _, heap_alloc_new w _, zrow_len m, by
    unfold zrow
    rw [List.take_of_length_le (by simp [u64V])], .inl (Nat.le_refl _)⟩
set_option maxRecDepth 100000 in
set_option maxHeartbeats 1000000 in
theorem above_any (x k p : Nat) (w : World) (hx : x < 1099511627776) (hk : k = 2 ∨ k = 3) (hp : p < 65536) :
    Calls Tryd.prog 29 #[.int .u64 x, .int .i64 k, .int .u64 p] w fun e w' => e = .returned (.bool (decide (p * 65536 ^ (2 * k) < x ^ k))) ∧ Below w.heap.size w w' := by
  obtain ⟨iu, hE⟩ := elemU
  have hmk := make_zrow k hk
  have hk3 : k ≤ 3 := by omega
  go_enter Tryd.func29, Tryd.ntmps29
  go_wp2_with fail
  go_loopw [7, 12] (fun t i wr => ∃ (j g n cap : Nat) (l : List Nat), j ≤ k ∧ i = .int .i64 j ∧ t = .slice (some ⟨g, 0, none⟩) n cap ∧ BR wr w.heap.size 54 g n cap (u64V l) ∧ small l ∧ val l = x ^ j ∧ 1 ≤ n ∧ n ≤ 1 + 3 * j ∧ Below w.heap.size w wr)
    (fun _ i _ => k - (intOf i).toNat)
  case atStart => exact ⟨0, w.heap.size, 1, 1, [1], by omega, rfl, rfl, ⟨rfl, Nat.le_refl _, Nat.le_refl _, _, _, heap_alloc_new w _, rfl, rfl, .inl (Nat.le_refl _)⟩, by intro d hd; simp at hd; omega, by simp [val], by omega, by omega, (Below.refl _ _).alloc (Nat.le_refl _) _⟩
  case round =>
    obtain ⟨j, g, n, cap, l, hj, rfl, rfl, hr, hsm, hval, hn1, hn, hb⟩ := hrel
    have hbs := hb.size
    by_cases hlt : j < k
    · have HV := hide hval
      clear hval
      go_wp2_with (go_at_call 40; refine (times_any w.heap.size g n cap l x _ hr hsm hn1 (by omega) hx).mono ?_; rintro e w1 ⟨g1, n1, cap1, l1, rfl, hr1, hs1, hv1, h11, h12, hb1⟩)
      go_roundw
      case rel => exact ⟨j + 1, g1, n1, cap1, l1, by omega, by go_num, rfl, hr1.mono hbs, hs1, by rw [hv1, HV.out, Nat.pow_succ], h11, by omega, hb.trans (hb1.mono hbs)⟩
      case measure => simp [intOf]; omega
    · obtain rfl : j = k := by omega
      have HV := hide hval
      clear hval hlt
      have hgl := hr.lt
      go_wp2_with (at_builtin; refine append_br 54 hE w.heap.size (.slice (some ⟨wr.heap.size, 0, none⟩) (2 * j) (2 * j)) (2 * j) (u64V (List.replicate (2 * j) 0)) ⟨wr.heap.size + 1, 0, none⟩ 1 1 [.int .u64 (p : Int)] rfl rfl (BRn.of (((br_zrow wr (2 * j)).mono hbs).alloc _)) rfl (by omega) (news_blk (HasR.new' (by simp) 54 #[.int .u64 (p : Int)])) (one_u64 _) (by omega) (by simp; omega) ?_; intro g2 cap2 w2 hr2 hg2 hl2 hb2; rw [u64V_snoc] at hr2)
      have hv2 : BR w2 w.heap.size 54 g n cap (u64V l) := ((hr.alloc _).alloc _).kept hg2 (apart (by omega))
      have hne2 : g ≠ g2 := by
        have h2 := lies hl2
        simp at h2
        omega
      have hB2 : Below w.heap.size w w2 := ((hb.alloc hbs _).alloc (by simp; omega) _).trans hb2
      have hsw := small_repl (2 * j) p hp
      have hvw := val_repl (2 * j) p
      generalize List.replicate (2 * j) 0 ++ [p] = lw at hr2 hsw hvw
      have HW := hide hvw
      have hnw0 : 2 * j + 1 ≤ 7 := by omega
      generalize 2 * j + 1 = nw at hr2 hnw0 ⊢
      have hnw : nw ≤ 7 := hnw0
      clear hnw0
      clear hr hb hbs hgl hg2 hl2 hb2 hvw hmk
      go_wp2_with fail
      go_loopw [7] (fun t wr => ∃ (g n cap : Nat) (l : List Nat), t = .slice (some ⟨g, 0, none⟩) n cap ∧ BR wr w.heap.size 54 g n cap (u64V l) ∧ BR wr w.heap.size 54 g2 nw cap2 (u64V lw) ∧ g ≠ g2 ∧ small l ∧ val l = x ^ j ∧ 1 ≤ n ∧ n ≤ 20 ∧ Below w.heap.size w wr)
        (fun t _ => nw - slen t)
      case atStart => exact ⟨g, n, cap, l, rfl, hv2, hr2, hne2, hsm, HV.out, hn1, by omega, hB2⟩
      case round =>
        clear hv2 hr2 hne2 hsm HV hn1 hn hB2
        obtain ⟨g, n, cap, l, rfl, hr, hr2, hne, hsm, hval, hn1, hn, hb⟩ := hrel
        have hbs := hb.size
        have hgl := hr.lt
        have hgl2 := hr2.lt
        have HV := hide hval
        clear hval
        by_cases hlt : n < nw
        · go_wp2_with (at_builtin; refine append_br 54 hE w.heap.size (.slice (some ⟨g, 0, none⟩) n cap) n (u64V l) ⟨wr.heap.size, 0, none⟩ 1 1 [.int .u64 ((0 : Nat) : Int)] rfl rfl ((BRn.of hr).alloc _) rfl (by omega) (news_one _ _) (one_u64 _) (by omega) (by simp; omega) ?_; intro g3 cap3 w3 hr3 hg3 hl3 hb3; rw [u64V_snoc] at hr3)
          go_roundw
          case rel => exact ⟨g3, n + 1, cap3, l ++ [0], rfl, hr3, (hr2.alloc _).kept hg3 (apart (by omega)), by have h3 := lies hl3; simp at h3; omega, small_snoc hsm (by omega), by rw [val_zero]; exact HV.out, by omega, by omega, (hb.alloc hbs _).trans hb3⟩
          case measure => simp [slen]; omega
        · go_wp2_with fail
          go_loopw [8] (fun t wr => ∃ (g2 nw cap2 : Nat) (lw : List Nat), t = .slice (some ⟨g2, 0, none⟩) nw cap2 ∧ nw ≤ n ∧ BR wr w.heap.size 54 g n cap (u64V l) ∧ BR wr w.heap.size 54 g2 nw cap2 (u64V lw) ∧ g ≠ g2 ∧ small lw ∧ val lw = p * 65536 ^ (2 * j) ∧ Below w.heap.size w wr)
            (fun t _ => n - slen t)
          case atStart => exact ⟨g2, nw, cap2, lw, rfl, by omega, hr, hr2, hne, hsw, HW.out, hb⟩
          case round =>
            clear hr hr2 hne hsw HW hb hbs hgl hgl2 hlt hnw
            obtain ⟨g2, nw, cap2, lw, rfl, hnw, hr, hr2, hne, hsw, hval, hb⟩ := hrel
            have hbs := hb.size
            have hgl := hr.lt
            have hgl2 := hr2.lt
            have HW := hide hval
            clear hval
            by_cases hlt : nw < n
            · go_wp2_with (at_builtin; refine append_br 54 hE w.heap.size (.slice (some ⟨g2, 0, none⟩) nw cap2) nw (u64V lw) ⟨wr.heap.size, 0, none⟩ 1 1 [.int .u64 ((0 : Nat) : Int)] rfl rfl ((BRn.of hr2).alloc _) rfl (by omega) (news_one _ _) (one_u64 _) (by omega) (by simp; omega) ?_; intro g3 cap3 w3 hr3 hg3 hl3 hb3; rw [u64V_snoc] at hr3)
              go_roundw
              case rel => exact ⟨g3, nw + 1, cap3, lw ++ [0], rfl, by omega, (hr.alloc _).kept hg3 (apart (by omega)), hr3, by have h3 := lies hl3; simp at h3; omega, small_snoc hsw (by omega), by rw [val_zero]; exact HW.out, (hb.alloc hbs _).trans hb3⟩
              case measure => simp [slen]; omega
            · obtain rfl : nw = n := by omega
              have hl1 : l.length = nw := by rw [← u64V_len, hr.len]
              have hl2 : lw.length = nw := by rw [← u64V_len, hr2.len]
              clear hlt hnw
              have hn20 : nw ≤ 20 := hn
              go_wp2_with fail
              go_loopw [9] (fun i wr => ∃ m : Nat, m ≤ nw ∧ i = .int .i64 ((m : Int) - 1) ∧ (∀ q, m ≤ q → q < nw → l.getD q 0 = lw.getD q 0) ∧ BR wr w.heap.size 54 g nw cap (u64V l) ∧ BR wr w.heap.size 54 g2 nw cap2 (u64V lw) ∧ Below w.heap.size w wr)
                (fun i _ => (intOf i + 1).toNat)
              case atStart => exact ⟨nw, by omega, rfl, by intro q h1 h2; omega, hr, hr2, hb⟩
              case round =>
                clear hr hr2 hb hbs hgl hgl2
                obtain ⟨m, hm, rfl, heq, hr, hr2, hb⟩ := hrel
                have HEQ := hide heq
                clear heq
                by_cases hm0 : m = 0
                · subst hm0
                  have hfin : decide (p * 65536 ^ (2 * j) < x ^ j) = false := by
                    have h1 := val_eq l lw (by omega) (fun i hi => HEQ.out i (by omega) (by omega))
                    rw [HV.out, HW.out] at h1
                    simp; omega
                  have HF := hide hfin
                  clear hfin
                  go_wp2
                  go_ret
                  exact ⟨ret_val (by show Value.bool false = _; rw [HF.out]), hb⟩
                · obtain ⟨q, rfl⟩ : ∃ q, m = q + 1 := ⟨m - 1, by omega⟩
                  have hc1 := br_u64 hr q (by omega)
                  have hc2 := br_u64 hr2 q (by omega)
                  have hgt : lw.getD q 0 < l.getD q 0 → p * 65536 ^ (2 * j) < x ^ j := by
                    intro h
                    have h1 := val_lt lw l q (by omega) hsw hsm (by omega) (fun i h1 h2 => (HEQ.out i (by omega) (by omega)).symm) h
                    rw [HV.out, HW.out] at h1
                    exact h1
                  have hle : l.getD q 0 < lw.getD q 0 → ¬ p * 65536 ^ (2 * j) < x ^ j := by
                    intro h
                    have h1 := val_lt l lw q (by omega) hsm hsw (by omega) (fun i h1 h2 => HEQ.out i (by omega) (by omega)) h
                    rw [HV.out, HW.out] at h1
                    omega
                  have hd1 := small_getD hsm q
                  have hd2 := small_getD hsw q
                  have HNX : Hid (l.getD q 0 = lw.getD q 0 → ∀ i, q ≤ i → i < nw → l.getD i 0 = lw.getD i 0) := hide (by
                    intro h i h1 h2
                    by_cases h3 : i = q
                    · rw [h3]; exact h
                    · exact HEQ.out i (by omega) h2)
                  generalize l.getD q 0 = d1 at hc1 hgt hle hd1 HNX
                  generalize lw.getD q 0 = d2 at hc2 hgt hle hd2 HNX
                  rw [show (((q + 1 : Nat) : Int) - 1) = (q : Int) from by omega]
                  have hi0 : (0 : Int) ≤ (q : Int) := by omega
                  have hi1 : (q : Int) < (nw : Int) := by omega
                  by_cases hd : d1 = d2
                  · have hnx := hide (HNX.out hd)
                    have hbb : ((d1 : Int) != (d2 : Int)) = false := by simp [hd]
                    clear hgt hle HNX hd
                    go_wp2_with fail
                    go_quiet (fail)
                    go_wp2_with fail
                    go_roundw
                    case rel => exact ⟨q, by omega, rfl, hnx.out, hr.drewN _, hr2.drewN _, below_drewN hb _⟩
                    case measure => simp [intOf]
                  · have hbb : ((d1 : Int) != (d2 : Int)) = true := by simp; omega
                    have hres : decide (d2 < d1) = decide (p * 65536 ^ (2 * j) < x ^ j) := by
                      rcases (show d1 < d2 ∨ d2 < d1 by omega) with h | h
                      · have h1 := hle h
                        have h2 : ¬ d2 < d1 := by omega
                        simp [h1, h2]
                      · have h1 := hgt h
                        have h2 : d2 < d1 := by omega
                        simp [h1, h2]
                    have HRES := hide hres
                    clear hgt hle HNX hres hd
                    go_wp2_with fail
                    go_quiet (fail)
                    go_wp2_with fail
                    go_quiet (fail)
                    go_wp2_with fail
                    go_ret
                    exact ⟨ret_val (by show Value.bool (decide (d2 < d1)) = _; rw [HRES.out]), below_drewN (below_drewN hb _) _⟩
end Go.Proofs.YtjobghphjkeohaaDoor

/- The first bits behind the point of a root: what the document's 'root' comes to. -/
namespace Go.Proofs.YtjobghphjkeohaaDoor
open Go.RowKit
/-- The greatest number whose power is not above. -/
def isRoot (p k lo : Nat) : Prop := lo ^ k ≤ p * 65536 ^ (2 * k) ∧ p * 65536 ^ (2 * k) < (lo + 1) ^ k
theorem isRoot_unique {p k a b : Nat} (ha : isRoot p k a) (hb : isRoot p k b) : a = b := by
  have key : ∀ a b, isRoot p k a → isRoot p k b → a ≤ b := by
    intro a b ha hb
    rcases Nat.lt_or_ge b a with h | h
    · have h1 : (b + 1) ^ k ≤ a ^ k := Nat.pow_le_pow_left h k
      have h2 := hb.2
      have h3 := ha.1
      omega
    · exact h
  exact Nat.le_antisymm (key a b ha hb) (key b a hb ha)
set_option maxRecDepth 100000 in
set_option maxHeartbeats 1000000 in
theorem root_any (p k : Nat) (w : World) (hk : k = 2 ∨ k = 3) (hp : p < 65536) :
    Calls Tryd.prog 18 #[.int .u64 p, .int .i64 k] w fun e w' => ∃ lo : Nat, e = .returned (.int .u32 ((lo : Int) % 4294967296)) ∧ isRoot p k lo ∧ Below w.heap.size w w' := by
  have hhi : p * 65536 ^ (2 * k) < 1099511627776 ^ k := by
    rcases hk with rfl | rfl
    · have e : (1099511627776 : Nat) ^ 2 = 65536 * 65536 ^ (2 * 2) := by decide
      rw [e]
      exact Nat.mul_lt_mul_of_pos_right hp (by decide)
    · have e : (1099511627776 : Nat) ^ 3 = 16777216 * 65536 ^ (2 * 3) := by decide
      rw [e]
      exact Nat.mul_lt_mul_of_pos_right (by omega) (by decide)
  have hlo : 0 ^ k ≤ p * 65536 ^ (2 * k) := by
    rcases hk with rfl | rfl <;> simp
  go_enter Tryd.func18, Tryd.ntmps18
  go_wp2_with fail
  go_loopw [5, 6] (fun a b wr => ∃ lo hi : Nat, a = .int .u64 (lo : Int) ∧ b = .int .u64 (hi : Int) ∧ lo < hi ∧ hi ≤ 1099511627776 ∧ lo ^ k ≤ p * 65536 ^ (2 * k) ∧ p * 65536 ^ (2 * k) < hi ^ k ∧ Below w.heap.size w wr)
    (fun a b _ => (intOf b - intOf a).toNat)
  case atStart => exact ⟨0, 1099511627776, rfl, rfl, by omega, by omega, hlo, hhi, Below.refl _ _⟩
  case round =>
    clear hlo hhi
    obtain ⟨lo, hi, rfl, rfl, hlh, hhb, hl, hh, hb⟩ := hrel
    have HL := hide hl
    have HH := hide hh
    clear hl hh
    by_cases hlt : lo + 1 < hi
    · have hab := hide (above_any ((lo + hi) / 2) k p wr (by omega) hk hp)
      by_cases hP : p * 65536 ^ (2 * k) < ((lo + hi) / 2) ^ k
      · have hd : decide (p * 65536 ^ (2 * k) < ((lo + hi) / 2) ^ k) = true := by simpa using hP
        rw [hd] at hab
        have HP := hide hP
        clear hP hd hk
        go_wp2_with fail
        rw [show (((lo : Int) + (hi : Int)) / 2) = (((lo + hi) / 2 : Nat) : Int) from by omega]
        refine hab.out.mono ?_
        rintro e w1 ⟨rfl, hb1⟩
        go_wp2
        go_roundw
        case rel => exact ⟨lo, (lo + hi) / 2, rfl, by simp, by omega, by omega, HL.out, HP.out, hb.trans (hb1.mono hb.size)⟩
        case measure => simp [intOf]; omega
      · have hd : decide (p * 65536 ^ (2 * k) < ((lo + hi) / 2) ^ k) = false := by simpa using hP
        rw [hd] at hab
        have HP := hide (Nat.le_of_not_lt hP)
        clear hP hd hk
        go_wp2_with fail
        rw [show (((lo : Int) + (hi : Int)) / 2) = (((lo + hi) / 2 : Nat) : Int) from by omega]
        refine hab.out.mono ?_
        rintro e w1 ⟨rfl, hb1⟩
        go_wp2
        go_roundw
        case rel => exact ⟨(lo + hi) / 2, hi, by simp, rfl, by omega, by omega, HP.out, HH.out, hb.trans (hb1.mono hb.size)⟩
        case measure => simp [intOf]; omega
    · have e : lo + 1 = hi := by omega
      have hh := HH.out
      rw [← e] at hh
      have hroot : isRoot p k lo := ⟨HL.out, hh⟩
      clear e hh
      have HR := hide hroot
      clear hroot HL HH hk
      go_wp2
      go_ret
      exact ⟨lo, rfl, HR.out, hb⟩
end Go.Proofs.YtjobghphjkeohaaDoor
