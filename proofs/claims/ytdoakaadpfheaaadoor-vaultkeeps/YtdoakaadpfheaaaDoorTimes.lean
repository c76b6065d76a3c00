/- Numbers of digits of 2^16: what the document's 'times' comes to. -/
import Derived.Test.YtdoakaadpfheaaaDoorNum
namespace Go.Proofs.YtdoakaadpfheaaaDoor
open Go.RowKit
/-- Words of 64 bits as cells. -/
def u64V (l : List Nat) : List Value := l.map fun (d : Nat) => Value.int .u64 (d : Int)
theorem u64V_len (l : List Nat) : (u64V l).length = l.length := by simp [u64V]
theorem u64V_snoc (l : List Nat) (d : Nat) : u64V l ++ [Value.int .u64 (d : Int)] = u64V (l ++ [d]) := by simp [u64V]
theorem one_u64 (n : Int) : ∀ u ∈ [Value.int .u64 n], u.oneCell' = true := by
  intro u hu; simp at hu; subst hu; rfl
theorem br_u64 {w : World} {base g n cap : Nat} {l : List Nat} (h : BR w base 77 g n cap (u64V l)) (i : Nat) (hi : i < n) : w.cell? ⟨g, i, none⟩ = some (.int .u64 ((l.getD i 0 : Nat) : Int)) := by
  have hl : l.length = n := by rw [← u64V_len, h.len]
  rw [h.cell i hi]
  simp [u64V, List.getElem?_eq_getElem (show i < l.length by omega)]
/-- The number that digits are, the least first. -/
def val : List Nat → Nat
  | [] => 0
  | d :: r => d + 65536 * val r
theorem val_snoc (l : List Nat) (d : Nat) : val (l ++ [d]) = val l + d * 65536 ^ l.length := by
  induction l with
  | nil => simp [val]
  | cons a r ih =>
    simp only [List.cons_append, val, ih, List.length_cons, Nat.pow_succ]
    rw [Nat.mul_add]
    have : 65536 * (d * 65536 ^ r.length) = d * (65536 ^ r.length * 65536) := by
      rw [Nat.mul_comm 65536, Nat.mul_assoc]
    omega
def small (l : List Nat) : Prop := ∀ d ∈ l, d < 65536
theorem small_snoc {l : List Nat} (h : small l) {d : Nat} (hd : d < 65536) : small (l ++ [d]) := by
  intro x hx
  simp at hx
  rcases hx with hx | rfl
  · exact h x hx
  · exact hd
theorem small_getD {l : List Nat} (h : small l) (i : Nat) : l.getD i 0 < 65536 := by
  rw [List.getD_eq_getElem?_getD]
  by_cases hi : i < l.length
  · rw [List.getElem?_eq_getElem hi]
    exact h _ (List.getElem_mem hi)
  · rw [List.getElem?_eq_none (by omega)]; simp
theorem take_snocD (l : List Nat) (i : Nat) (h : i < l.length) : l.take (i + 1) = l.take i ++ [l.getD i 0] := by
  rw [List.take_succ_eq_append_getElem h]
  simp [h]
/-- One step of the multiplication keeps the sum. -/
theorem times_low (l o : List Nat) (x c i : Nat) (hi : i < l.length) (ho : o.length = i) (h : val o + c * 65536 ^ i = val (l.take i) * x) :
    val (o ++ [(c + l.getD i 0 * x) % 65536]) + (c + l.getD i 0 * x) / 65536 * 65536 ^ (i + 1) = val (l.take (i + 1)) * x := by
  rw [val_snoc, take_snocD l i hi, val_snoc, ho]
  have hl : (l.take i).length = i := by rw [List.length_take]; omega
  rw [hl, Nat.add_mul, ← h]
  generalize l.getD i 0 = d
  have hm := Nat.mod_add_div (c + d * x) 65536
  generalize (c + d * x) % 65536 = r at hm ⊢
  generalize (c + d * x) / 65536 = q at hm ⊢
  have e : r * 65536 ^ i + q * 65536 ^ (i + 1) = (c + d * x) * 65536 ^ i := by
    rw [← hm, Nat.pow_succ, Nat.add_mul]
    congr 1
    rw [Nat.mul_comm 65536 q, Nat.mul_assoc, Nat.mul_comm 65536]
  rw [Nat.add_assoc, e, Nat.add_mul, ← Nat.add_assoc]
  congr 1
  rw [Nat.mul_assoc, Nat.mul_assoc, Nat.mul_comm x]
theorem times_high (o : List Nat) (V c i : Nat) (ho : o.length = i) (h : val o + c * 65536 ^ i = V) : val (o ++ [c % 65536]) + c / 65536 * 65536 ^ (i + 1) = V := by
  rw [val_snoc, ho, ← h]
  have hm := Nat.mod_add_div c 65536
  generalize c % 65536 = r at hm ⊢
  generalize c / 65536 = q at hm ⊢
  rw [← hm, Nat.pow_succ, Nat.add_mul, Nat.add_assoc]
  congr 2
  rw [Nat.mul_comm 65536 q, Nat.mul_assoc, Nat.mul_comm 65536]
theorem carry_low (c d x : Nat) (hc : c ≤ x) (hd : d < 65536) : (c + d * x) / 65536 ≤ x := by
  have h1 : d * x ≤ 65535 * x := Nat.mul_le_mul_right x (by omega)
  omega
theorem prod_bd (d x : Nat) (hd : d < 65536) (hx : x < 1099511627776) : d * x ≤ 72056494526300160 := by
  have h1 : d * x ≤ 65535 * 1099511627776 := Nat.mul_le_mul (by omega) (by omega)
  omega
theorem carry_high (c m : Nat) (h : c < 65536 ^ (m + 1)) : c / 65536 < 65536 ^ m := by
  rw [Nat.pow_succ] at h
  exact Nat.div_lt_of_lt_mul (by rw [Nat.mul_comm]; exact h)
set_option maxRecDepth 100000 in
set_option maxHeartbeats 1000000 in
theorem times_any (base g n cap : Nat) (l : List Nat) (x : Nat) (w : World) (hr : BR w base 77 g n cap (u64V l)) (hsm : small l) (hn1 : 1 ≤ n) (hn : n ≤ 100) (hx : x < 1099511627776) :
    Calls Tryd.prog 88 #[.slice (some ⟨g, 0, none⟩) n cap, .int .u64 x] w fun e w' => ∃ g' n' cap' l', e = .returned (.slice (some ⟨g', 0, none⟩) n' cap') ∧ BR w' w.heap.size 77 g' n' cap' (u64V l') ∧ small l' ∧ val l' = val l * x ∧ 1 ≤ n' ∧ n' ≤ n + 3 ∧ Below w.heap.size w w' := by
  obtain ⟨iu, hE⟩ := elemU
  have hll : l.length = n := by rw [← u64V_len, hr.len]
  have hgl := hr.lt
  go_enter Tryd.func88, Tryd.ntmps88
  go_wp2_with fail
  go_loopw [5, 6, 7] (fun t c i wr => ∃ (k : Nat) (o : List Nat) (cc : Nat), i = .int .i64 k ∧ c = .int .u64 (cc : Int) ∧ BRn wr w.heap.size 77 t k (u64V o) ∧ small o ∧ k ≤ n + 3 ∧ cc ≤ x ∧ val o + cc * 65536 ^ k = val (l.take k) * x ∧ (n ≤ k → cc < 65536 ^ (n + 3 - k)) ∧ Below w.heap.size w wr)
    (fun _ _ i _ => n + 3 - (intOf i).toNat)
  case atStart => exact ⟨0, [], 0, rfl, rfl, BRn.nil _ _ _, by intro d hd; simp at hd, by omega, by omega, by simp [val], fun _ => Nat.pow_pos (by omega), Below.refl _ _⟩
  case round =>
    obtain ⟨k, o, cc, rfl, rfl, ho, hso, hk, hcx, hval, hc3, hb⟩ := hrel
    have hol : o.length = k := by rw [← u64V_len, ho.len]
    have hbs := hb.size
    by_cases hlt : k < n
    · have hck := br_u64 (hr.below hb hgl) k hlt
      have hd := small_getD hsm k
      have hp := prod_bd (l.getD k 0) x hd hx
      have hcl := hide (carry_low cc (l.getD k 0) x hcx hd)
      have hvl := hide (times_low l o x cc k (by omega) hol hval)
      generalize l.getD k 0 = d at hck hd hp hcl hvl
      have hp1 : (0 : Int) ≤ (d : Int) * (x : Int) := Int.mul_nonneg (by omega) (by omega)
      have hp2 : (d : Int) * (x : Int) ≤ 72056494526300160 := by
        have h9 : ((d * x : Nat) : Int) ≤ 72056494526300160 := by omega
        simpa using h9
      have hb1 : decide ((k : Int) < (n : Int)) = true := by simp; omega
      have hel : ((cc : Int) + (d : Int) * (x : Int)) % 65536 = (((cc + d * x) % 65536 : Nat) : Int) := by simp
      have HEL := hide hel
      clear hval hc3 hel
      go_wp2_with (at_builtin; (refine append_br 77 hE w.heap.size _ k (u64V o) ⟨wr.heap.size, 0, none⟩ 1 1 [.int .u64 (((cc : Int) + (d : Int) * (x : Int)) % 65536)] rfl rfl (ho.alloc _) rfl (by omega) (news_one _ _) (one_u64 _) (by omega) (by simp; omega) ?_); intro g1 cap1 w' hb' hg' hl' hbel; rw [HEL.out, u64V_snoc] at hb')
      have hlast : n ≤ k + 1 → (cc + d * x) / 65536 < 65536 ^ (n + 3 - (k + 1)) := by
        intro hnk
        have e : n + 3 - (k + 1) = 3 := by omega
        rw [e]
        have h1 := hcl.out
        have h2 : (65536 : Nat) ^ 3 = 281474976710656 := by decide
        rw [h2]
        omega
      go_roundw
      case rel => exact ⟨k + 1, o ++ [(cc + d * x) % 65536], (cc + d * x) / 65536, by go_num, by simp, BRn.of hb', small_snoc hso (by omega), by omega, hcl.out, hvl.out, hlast, (hb.alloc hbs _).trans hbel⟩
      case measure => simp [intOf]; omega
    · have hkn : n ≤ k := by omega
      have hcb := hc3 hkn
      have hb1 : decide ((k : Int) < (n : Int)) = false := by simp; omega
      have htk : val (l.take k) = val l := by rw [List.take_of_length_le (by omega)]
      have htk1 : val (l.take (k + 1)) = val l := by rw [List.take_of_length_le (by omega)]
      by_cases hc0 : 0 < cc
      · have hk3 : k < n + 3 := by
          rcases Nat.lt_or_ge k (n + 3) with h | h
          · exact h
          · have e : n + 3 - k = 0 := by omega
            rw [e] at hcb; simp at hcb; omega
        have hcb' : cc < 65536 ^ (n + 3 - (k + 1) + 1) := by
          have e : n + 3 - (k + 1) + 1 = n + 3 - k := by omega
          rw [e]; exact hcb
        have hhi : cc / 65536 < 65536 ^ (n + 3 - (k + 1)) := carry_high cc (n + 3 - (k + 1)) hcb'
        clear hcb'
        have HHI := hide hhi
        have hvh := hide (times_high o _ cc k hol hval)
        rw [htk, ← htk1] at hvh
        have hb2 : decide ((0 : Int) < (cc : Int)) = true := by simp; omega
        have hel : (cc : Int) % 65536 = ((cc % 65536 : Nat) : Int) := by simp
        have HEL := hide hel
        clear hhi hel hval hc3 htk htk1 hcb
        go_wp2_with (at_builtin; (refine append_br 77 hE w.heap.size _ k (u64V o) ⟨wr.heap.size, 0, none⟩ 1 1 [.int .u64 ((cc : Int) % 65536)] rfl rfl (ho.alloc _) rfl (by omega) (news_one _ _) (one_u64 _) (by omega) (by simp; omega) ?_); intro g1 cap1 w' hb' hg' hl' hbel; rw [HEL.out, u64V_snoc] at hb')
        go_roundw
        case rel => exact ⟨k + 1, o ++ [cc % 65536], cc / 65536, by go_num, by simp, BRn.of hb', small_snoc hso (by omega), by omega, by omega, hvh.out, fun _ => HHI.out, (hb.alloc hbs _).trans hbel⟩
        case measure => simp [intOf]; omega
      · obtain rfl : cc = 0 := by omega
        have hv0 : val o = val l * x := by rw [← htk, ← hval]; omega
        rcases ho with ⟨_, h0, _⟩ | ⟨g1, cap1, rfl, hr1⟩
        · omega
        · clear hval hc3 htk htk1 hcb hcx
          go_wp2
          go_ret
          exact ⟨g1, k, cap1, o, rfl, hr1, hso, hv0, by omega, hk, hb⟩
end Go.Proofs.YtdoakaadpfheaaaDoor
