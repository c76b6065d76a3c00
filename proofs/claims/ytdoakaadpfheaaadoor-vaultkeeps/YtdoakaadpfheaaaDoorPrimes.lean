/- The first sixty-four primes: what the document's 'primes' comes to. -/
import Derived.Test.YtdoakaadpfheaaaDoorTimes
import Derived.Test.YtdoakaadpfheaaaDoorEnding
namespace Go.Proofs.YtdoakaadpfheaaaDoor
open Go.RowKit
/-- The first sixty-four primes. -/
def p64 : List Nat := [2, 3, 5, 7, 11, 13, 17, 19, 23, 29, 31, 37, 41, 43, 47, 53, 59, 61, 67, 71, 73, 79, 83, 89, 97, 101, 103, 107, 109, 113, 127, 131, 137, 139, 149, 151, 157, 163, 167, 173, 179, 181, 191, 193, 197, 199, 211, 223, 227, 229, 233, 239, 241, 251, 257, 263, 269, 271, 277, 281, 283, 293, 307, 311]
/-- Those of them below k. -/
def pBelow (k : Nat) : List Nat := p64.filter fun p => decide (p < k)
def intV (l : List Nat) : List Value := l.map fun (d : Nat) => Value.int .i64 (d : Int)
theorem intV_len (l : List Nat) : (intV l).length = l.length := by simp [intV]
theorem intV_snoc (l : List Nat) (d : Nat) : intV l ++ [Value.int .i64 (d : Int)] = intV (l ++ [d]) := by simp [intV]
theorem one_i64 (n : Int) : ∀ u ∈ [Value.int .i64 n], u.oneCell' = true := by
  intro u hu; simp at hu; subst hu; rfl
theorem br_i64 {w : World} {base g n cap : Nat} {l : List Nat} (h : BR w base 3 g n cap (intV l)) (i : Nat) (hi : i < n) : w.cell? ⟨g, i, none⟩ = some (.int .i64 ((l.getD i 0 : Nat) : Int)) := by
  have hl : l.length = n := by rw [← intV_len, h.len]
  rw [h.cell i hi]
  simp [intV, List.getElem?_eq_getElem (show i < l.length by omega)]
def noneOf (k : Nat) (l : List Nat) : Bool := l.all fun p => k % p != 0
theorem noneOf_snoc (k p : Nat) (l : List Nat) : noneOf k (l ++ [p]) = (noneOf k l && (k % p != 0)) := by simp [noneOf]
theorem bne_cast (k q : Nat) : (((k : Int) % (q : Int)) != 0) = (k % q != 0) := by
  have e : ((k : Int) % (q : Int)) = ((k % q : Nat) : Int) := (Int.natCast_emod k q).symm
  rw [e, Bool.eq_iff_iff]
  simp only [bne_iff_ne, ne_eq]
  omega
/-- One candidate: either it is the next prime, or there is one that divides it. -/
def stepOk (k : Nat) : Bool := (noneOf k (pBelow k) && pBelow (k + 1) == pBelow k ++ [k]) || (!noneOf k (pBelow k) && pBelow (k + 1) == pBelow k)
theorem steps_ok : (List.range 312).all (fun k => k < 2 || stepOk k) = true := by decide +kernel
theorem lens_ok : (List.range 312).all (fun k => (pBelow k).length < 64) = true := by decide +kernel
theorem all_ok : pBelow 312 = p64 := by decide +kernel
theorem pos_ok : ∀ p ∈ p64, 2 ≤ p ∧ p ≤ 311 := by decide +kernel
theorem p64_len : p64.length = 64 := by decide +kernel
theorem step_yes (k : Nat) (h2 : 2 ≤ k) (h : k ≤ 311) (hn : noneOf k (pBelow k) = true) : pBelow (k + 1) = pBelow k ++ [k] := by
  have h1 := List.all_eq_true.1 steps_ok k (by simp; omega)
  have h3 : ¬ k < 2 := by omega
  simpa [h3, stepOk, hn] using h1
theorem step_no (k : Nat) (h2 : 2 ≤ k) (h : k ≤ 311) (hn : noneOf k (pBelow k) = false) : pBelow (k + 1) = pBelow k := by
  have h1 := List.all_eq_true.1 steps_ok k (by simp; omega)
  have h3 : ¬ k < 2 := by omega
  simpa [h3, stepOk, hn] using h1
theorem len_lt (k : Nat) (h : k ≤ 311) : (pBelow k).length < 64 := by
  have h1 := List.all_eq_true.1 lens_ok k (by simp; omega)
  simpa using h1
theorem below_pos (k i : Nat) (h : i < (pBelow k).length) : 2 ≤ (pBelow k).getD i 0 ∧ (pBelow k).getD i 0 ≤ 311 := by
  rw [List.getD_eq_getElem?_getD, List.getElem?_eq_getElem h]
  have hm : (pBelow k)[i] ∈ pBelow k := List.getElem_mem h
  exact pos_ok _ (List.mem_filter.1 hm).1
set_option maxRecDepth 100000 in
set_option maxHeartbeats 1000000 in
theorem primes_any (w : World) :
    Calls Tryd.prog 45 #[.int .i64 64] w fun e w' => ∃ g cap, e = .returned (.slice (some ⟨g, 0, none⟩) 64 cap) ∧ BR w' w.heap.size 3 g 64 cap (intV p64) ∧ Below w.heap.size w w' := by
  obtain ⟨ii, hE⟩ := elemI
  go_enter Tryd.func45, Tryd.ntmps45
  go_wp2_with fail
  go_loopw [3, 4] (fun t i wr => ∃ k n : Nat, 2 ≤ k ∧ k ≤ 312 ∧ i = .int .i64 k ∧ n ≤ 64 ∧ BRn wr w.heap.size 3 t n (intV (pBelow k)) ∧ (∃ a c, t = .slice a n c) ∧ Below w.heap.size w wr)
    (fun _ i _ => 312 - (intOf i).toNat)
  case atStart => exact ⟨2, 0, by omega, by omega, rfl, by omega, BRn.nil _ _ _, ⟨_, _, rfl⟩, Below.refl _ _⟩
  case round =>
    obtain ⟨k, n, hk2, hk, rfl, hn, ho, ⟨a, c, rfl⟩, hb⟩ := hrel
    have hol : (pBelow k).length = n := by rw [← intV_len, ho.len]
    have hbs := hb.size
    by_cases hlt : k < 312
    · have hl64 := len_lt k (by omega)
      have hn64 : n < 64 := by omega
      have hy := hide (step_yes k hk2 (by omega))
      have hno := hide (step_no k hk2 (by omega))
      have hps := hide (below_pos k)
      generalize pBelow k = P at ho hol hy hno hps
      clear hl64
      go_wp2_with fail
      go_loop [5, 16] (fun b i => ∃ j : Nat, j ≤ n ∧ i = .int .i64 j ∧ b = .bool (noneOf k (P.take j)))
        (fun _ i => n - (intOf i).toNat)
      case atStart => exact ⟨0, by omega, rfl, rfl⟩
      case round =>
        obtain ⟨j, hj, rfl, rfl⟩ := hrel
        by_cases hjn : j < n
        · have hq := hps.out j (by omega)
          have hsn := hide (show noneOf k (P.take (j + 1)) = (noneOf k (P.take j) && (k % P.getD j 0 != 0)) by rw [take_snocD P j (by omega), noneOf_snoc])
          rcases ho with ⟨_, h0, _⟩ | ⟨g, cap, hv, hr⟩
          · omega
          · have ha : a = some ⟨g, 0, none⟩ := by injection hv
            subst ha
            have hcj := br_i64 hr j hjn
            generalize P.getD j 0 = q at hq hsn hcj
            have hq0 : ((q : Int) == 0) = false := by simp; omega
            cases hnb : noneOf k (P.take j)
            · have HN := hide hnb
              clear hnb
              go_wp2
              go_round
              case rel => exact ⟨j + 1, by omega, by go_num, by rw [hsn.out, HN.out]; rfl⟩
              case measure => simp [intOf]; omega
            · have HN := hide hnb
              clear hnb
              go_wp2
              go_round
              case rel => exact ⟨j + 1, by omega, by go_num, by rw [hsn.out, HN.out, bne_cast, Bool.true_and]⟩
              case measure => simp [intOf]; omega
        · obtain rfl : j = n := by omega
          have e : P.take j = P := List.take_of_length_le (by omega)
          rw [e]
          clear e hjn hj
          cases hnb : noneOf k P
          · have hnx := hide (hno.out hnb)
            clear hnb
            go_wp2
            go_roundw
            case rel => exact ⟨k + 1, j, by omega, by omega, by go_num, by omega, by rw [hnx.out]; exact ho, ⟨_, _, rfl⟩, hb⟩
            case measure => simp [intOf]; omega
          · have hnx := hide (hy.out hnb)
            clear hnb
            go_wp2_with (at_builtin; refine append_br 3 hE w.heap.size _ j (intV P) ⟨wr.heap.size, 0, none⟩ 1 1 [.int .i64 (k : Int)] rfl rfl (ho.alloc _) rfl (by omega) (news_one _ _) (one_i64 _) (by omega) (by simp; omega) ?_; intro g3 cap3 w3 hr3 hg3 hl3 hb3; rw [intV_snoc] at hr3)
            go_roundw
            case rel => exact ⟨k + 1, j + 1, by omega, by omega, by go_num, by omega, by rw [hnx.out]; exact BRn.of hr3, ⟨_, _, rfl⟩, (hb.alloc hbs _).trans hb3⟩
            case measure => simp [intOf]; omega
    · obtain rfl : k = 312 := by omega
      rw [all_ok] at ho hol
      have hn64 : n = 64 := by rw [← hol]; exact p64_len
      subst hn64
      rcases ho with ⟨_, h0, _⟩ | ⟨g, cap, hv, hr⟩
      · omega
      · have ha : a = some ⟨g, 0, none⟩ := by injection hv
        have hc : c = cap := by injection hv
        subst ha hc
        clear hv
        go_wp2
        go_ret
        exact ⟨g, c, rfl, hr, hb⟩
end Go.Proofs.YtdoakaadpfheaaaDoor
