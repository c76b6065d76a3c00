/- Texts of this proof, one behind the other. -/
import Derived.Test.YtjobghphjkeohaaDoorPart20
/- The first sixty-four primes: what the document's 'primes' comes to. -/
namespace Go.Proofs.YtjobghphjkeohaaDoor
open Go.RowKit
/-- The first sixty-four primes. -/
def p64 : List Nat := [2, 3, 5, 7, 11, 13, 17, 19, 23, 29, 31, 37, 41, 43, 47, 53, 59, 61, 67, 71, 73, 79, 83, 89, 97, 101, 103, 107, 109, 113, 127, 131, 137, 139, 149, 151, 157, 163, 167, 173, 179, 181, 191, 193, 197, 199, 211, 223, 227, 229, 233, 239, 241, 251, 257, 263, 269, 271, 277, 281, 283, 293, 307, 311]
/-- Those of them below k. -/
def pBelow (k : Nat) : List Nat := p64.filter fun p => decide (p < k)
def intV (l : List Nat) : List Value := l.map fun (d : Nat) => Value.int .i64 (d : Int)
theorem intV_len (l : List Nat) : (intV l).length = l.length := by simp [intV]
theorem intV_snoc (l : List Nat) (d : Nat) : intV l ++ [Value.int .i64 (d : Int)] = intV (l ++ [d]) := by simp [intV]
theorem one_i64 (n : Int) : ∀ u ∈ [Value.int .i64 n], u.oneCell' = true := by
  intro u hu; simp at hu; subst hu; rfl
theorem br_i64 {w : World} {base g n cap : Nat} {l : List Nat} (h : BR w base 3 g n cap (intV l)) (i : Nat) (hi : i < n) : w.cell? ⟨g, i, none⟩ = some (.int .i64 ((l.getD i 0 : Nat) : Int)) := by
  have hl : l.length = n := by rw [← intV_len, h.len]
  rw [h.cell i hi]
  simp [intV, List.getElem?_eq_getElem (show i < l.length by omega)]
def noneOf (k : Nat) (l : List Nat) : Bool := l.all fun p => k % p != 0
theorem noneOf_snoc (k p : Nat) (l : List Nat) : noneOf k (l ++ [p]) = (noneOf k l && (k % p != 0)) := by simp [noneOf]
theorem bne_cast (k q : Nat) : (((k : Int) % (q : Int)) != 0) = (k % q != 0) := by
  have e : ((k : Int) % (q : Int)) = ((k % q : Nat) : Int) := (Int.natCast_emod k q).symm
  rw [e, Bool.eq_iff_iff]
  simp only [bne_iff_ne, ne_eq]
  omega
/-- One candidate: either it is the next prime, or there is one that divides it. -/
def stepOk (k : Nat) : Bool := (noneOf k (pBelow k) && pBelow (k + 1) == pBelow k ++ [k]) || (!noneOf k (pBelow k) && pBelow (k + 1) == pBelow k)
theorem steps_ok : (List.range 312).all (fun k => k < 2 || stepOk k) = true := by decide +kernel
theorem lens_ok : (List.range 312).all (fun k => (pBelow k).length < 64) = true := by decide +kernel
theorem all_ok : pBelow 312 = p64 := by decide +kernel
theorem pos_ok : ∀ p ∈ p64, 2 ≤ p ∧ p ≤ 311 := by decide +kernel
theorem p64_len : p64.length = 64 := by decide +kernel
theorem step_yes (k : Nat) (h2 : 2 ≤ k) (h : k ≤ 311) (hn : noneOf k (pBelow k) = true) : pBelow (k + 1) = pBelow k ++ [k] := by
  have h1 := List.all_eq_true.1 steps_ok k (by simp; omega)
  have h3 : ¬ k < 2 := by omega
  simpa [h3, stepOk, hn] using h1
theorem step_no (k : Nat) (h2 : 2 ≤ k) (h : k ≤ 311) (hn : noneOf k (pBelow k) = false) : pBelow (k + 1) = pBelow k := by
  have h1 := List.all_eq_true.1 steps_ok k (by simp; omega)
  have h3 : ¬ k < 2 := by omega
  simpa [h3, stepOk, hn] using h1
theorem len_lt (k : Nat) (h : k ≤ 311) : (pBelow k).length < 64 := by
  have h1 := List.all_eq_true.1 lens_ok k (by simp; omega)
  simpa using h1
theorem below_pos (k i : Nat) (h : i < (pBelow k).length) : 2 ≤ (pBelow k).getD i 0 ∧ (pBelow k).getD i 0 ≤ 311 := by
  rw [List.getD_eq_getElem?_getD, List.getElem?_eq_getElem h]
  have hm : (pBelow k)[i] ∈ pBelow k := List.getElem_mem h
  exact pos_ok _ (List.mem_filter.1 hm).1
set_option maxRecDepth 100000 in
set_option maxHeartbeats 1000000 in
theorem primes_any (w : World) :
    Calls Tryd.prog 17 #[.int .i64 64] w fun e w' => ∃ g cap, e = .returned (.slice (some ⟨g, 0, none⟩) 64 cap) ∧ BR w' w.heap.size 3 g 64 cap (intV p64) ∧ Below w.heap.size w w' := by
  obtain ⟨ii, hE⟩ := elemI
  go_enter Tryd.func17, Tryd.ntmps17
  go_wp2_with fail
  go_loopw [3, 4] (fun t i wr => ∃ k n : Nat, 2 ≤ k ∧ k ≤ 312 ∧ i = .int .i64 k ∧ n ≤ 64 ∧ BRn wr w.heap.size 3 t n (intV (pBelow k)) ∧ (∃ a c, t = .slice a n c) ∧ Below w.heap.size w wr)
    (fun _ i _ => 312 - (intOf i).toNat)
  case atStart => exact ⟨2, 0, by omega, by omega, rfl, by omega, BRn.nil _ _ _, ⟨_, _, rfl⟩, Below.refl _ _⟩
  case round =>
    obtain ⟨k, n, hk2, hk, rfl, hn, ho, ⟨a, c, rfl⟩, hb⟩ := hrel
    have hol : (pBelow k).length = n := by rw [← intV_len, ho.len]
    have hbs := hb.size
    by_cases hlt : k < 312
    · have hl64 := len_lt k (by omega)
      have hn64 : n < 64 := by omega
      have hy := hide (step_yes k hk2 (by omega))
      have hno := hide (step_no k hk2 (by omega))
      have hps := hide (below_pos k)
      generalize pBelow k = P at ho hol hy hno hps
      clear hl64
      go_wp2_with fail
      go_loop [5, 16] (fun b i => ∃ j : Nat, j ≤ n ∧ i = .int .i64 j ∧ b = .bool (noneOf k (P.take j)))
        (fun _ i => n - (intOf i).toNat)
      case atStart => exact ⟨0, by omega, rfl, rfl⟩
      case round =>
        obtain ⟨j, hj, rfl, rfl⟩ := hrel
        by_cases hjn : j < n
        · have hq := hps.out j (by omega)
          have hsn := hide (show noneOf k (P.take (j + 1)) = (noneOf k (P.take j) && (k % P.getD j 0 != 0)) by rw [take_snocD P j (by omega), noneOf_snoc])
          rcases ho with ⟨_, h0, _⟩ | ⟨g, cap, hv, hr⟩
          · omega
          · have ha : a = some ⟨g, 0, none⟩ := by injection hv
            subst ha
            have hcj := br_i64 hr j hjn
            generalize P.getD j 0 = q at hq hsn hcj
            have hq0 : ((q : Int) == 0) = false := by simp; omega
            cases hnb : noneOf k (P.take j)
            · have HN := hide hnb
              clear hnb
              go_wp2
              go_round
              case rel => exact ⟨j + 1, by omega, by go_num, by rw [hsn.out, HN.out]; rfl⟩
              case measure => simp [intOf]; omega
            · have HN := hide hnb
              clear hnb
              go_wp2
              go_round
              case rel => exact ⟨j + 1, by omega, by go_num, by rw [hsn.out, HN.out, bne_cast, Bool.true_and]⟩
              case measure => simp [intOf]; omega
        · obtain rfl : j = n := by omega
          have e : P.take j = P := List.take_of_length_le (by omega)
          rw [e]
          clear e hjn hj
          cases hnb : noneOf k P
          · have hnx := hide (hno.out hnb)
            clear hnb
            go_wp2
            go_roundw
            case rel => exact ⟨k + 1, j, by omega, by omega, by go_num, by omega, by rw [hnx.out]; exact ho, ⟨_, _, rfl⟩, hb⟩
            case measure => simp [intOf]; omega
          · have hnx := hide (hy.out hnb)
            clear hnb
            go_wp2_with (at_builtin; refine append_br 3 hE w.heap.size _ j (intV P) ⟨wr.heap.size, 0, none⟩ 1 1 [.int .i64 (k : Int)] rfl rfl (ho.alloc _) rfl (by omega) (news_one _ _) (one_i64 _) (by omega) (by simp; omega) ?_; intro g3 cap3 w3 hr3 hg3 hl3 hb3; rw [intV_snoc] at hr3)
            go_roundw
            case rel => exact ⟨k + 1, j + 1, by omega, by omega, by go_num, by omega, by rw [hnx.out]; exact BRn.of hr3, ⟨_, _, rfl⟩, (hb.alloc hbs _).trans hb3⟩
            case measure => simp [intOf]; omega
    · obtain rfl : k = 312 := by omega
      rw [all_ok] at ho hol
      have hn64 : n = 64 := by rw [← hol]; exact p64_len
      subst hn64
      rcases ho with ⟨_, h0, _⟩ | ⟨g, cap, hv, hr⟩
      · omega
      · have ha : a = some ⟨g, 0, none⟩ := by injection hv
        have hc : c = cap := by injection hv
        subst ha hc
        clear hv
        go_wp2
        go_ret
        exact ⟨g, c, rfl, hr, hb⟩
end Go.Proofs.YtjobghphjkeohaaDoor

/- The document's numbers, reckoned anew: what its 'New' comes to. -/
namespace Go.Proofs.YtjobghphjkeohaaDoor
open Go.RowKit
attribute [local go_sem ↓] Go.wp_at_zero Go.wp_at_succ
def lowK : List Nat := [5411319704, 6194414737, 7344290767, 8215976869, 9551921755, 10098905585, 11043570340, 11460697813, 12214315672, 13195500289, 13492127166, 14311783875, 14809980276, 15046980094, 15499789991, 16133124468, 16720292289, 16907126662, 17444216262, 17784676812, 17950125167, 18429019306, 18734950876, 19175934170, 19734090066, 20001703533, 20132865992, 20390182855, 20516441075, 20764397895, 21588763473, 21813078375, 22141143685, 22248366392, 22769593852, 22871018771, 23170020180, 23461497531, 23651862830, 23931792517, 24205322401, 24295138891, 24734567280, 24820601251, 24990902297, 25075189284, 25569408389, 26045227120, 26200031510, 26276752392, 26428864332, 26653801653, 26727943347, 27092625994, 27306805839, 27517677555, 27725365998, 27793908591, 27997534228, 28131656200, 28198240250, 28526537963, 28973835255, 29099129074]
def lowH : List Nat := [6074000999, 7439101573, 9603838834, 11363415354, 14244795007, 15485724812, 17708603819, 18721328409]
def okRoot (p k lo : Nat) : Bool := decide (lo ^ k ≤ p * 65536 ^ (2 * k)) && decide (p * 65536 ^ (2 * k) < (lo + 1) ^ k)
theorem okRoot_is {p k lo : Nat} (h : okRoot p k lo = true) : isRoot p k lo := by
  simp only [okRoot, Bool.and_eq_true, decide_eq_true_eq] at h
  exact h
theorem allK : (List.range 64).all (fun i => okRoot (p64.getD i 0) 3 (lowK.getD i 0) && decide (lowK.getD i 0 % 4294967296 = (wd kTab i).toNat)) = true := by decide +kernel
theorem allH : (List.range 8).all (fun i => okRoot (p64.getD i 0) 2 (lowH.getD i 0) && decide (lowH.getD i 0 % 4294967296 = (wd st0.l i).toNat)) = true := by decide +kernel
theorem rootK (i lo : Nat) (hi : i < 64) (h : isRoot (p64.getD i 0) 3 lo) : (lo : Int) % 4294967296 = N (wd kTab i) := by
  have h1 := List.all_eq_true.1 allK i (by simp; omega)
  simp only [Bool.and_eq_true, decide_eq_true_eq] at h1
  have e := isRoot_unique h (okRoot_is h1.1)
  rw [e]; unfold N; omega
theorem rootH (i lo : Nat) (hi : i < 8) (h : isRoot (p64.getD i 0) 2 lo) : (lo : Int) % 4294967296 = N (wd st0.l i) := by
  have h1 := List.all_eq_true.1 allH i (by simp; omega)
  simp only [Bool.and_eq_true, decide_eq_true_eq] at h1
  have e := isRoot_unique h (okRoot_is h1.1)
  rw [e]; unfold N; omega
/-- The words behind k rounds. -/
def newTo (k : Nat) : List (BitVec 32) := (st0.l.take k ++ List.replicate (8 - k) 0) ++ (kTab.take k ++ List.replicate (64 - k) 0)
theorem newTo_len (k : Nat) (h : k ≤ 64) : (newTo k).length = 72 := by
  have h1 : st0.l.length = 8 := rfl
  have h2 : kTab.length = 64 := rfl
  simp [newTo, h1, h2]; omega
theorem new_steps : (List.range 64).all (fun k => if k < 8 then newTo (k + 1) == ((newTo k).set (8 + k) (wd kTab k)).set k (wd st0.l k) else newTo (k + 1) == (newTo k).set (8 + k) (wd kTab k)) = true := by decide +kernel
theorem new_low (k : Nat) (h : k < 8) : ((newTo k).set (8 + k) (wd kTab k)).set k (wd st0.l k) = newTo (k + 1) := by
  have h1 := List.all_eq_true.1 new_steps k (by simp; omega)
  rw [if_pos h] at h1
  exact (beq_iff_eq.1 h1).symm
theorem new_high (k : Nat) (h8 : 8 ≤ k) (h : k < 64) : (newTo k).set (8 + k) (wd kTab k) = newTo (k + 1) := by
  have h1 := List.all_eq_true.1 new_steps k (by simp; omega)
  rw [if_neg (by omega)] at h1
  exact (beq_iff_eq.1 h1).symm
theorem new_zero : newTo 0 = List.replicate 72 0 := by decide +kernel
theorem new_full : newTo 64 = st0.l ++ kTab := by decide +kernel
theorem p64_bd (i : Nat) (h : i < 64) : 2 ≤ p64.getD i 0 ∧ p64.getD i 0 ≤ 311 := by
  have hl : i < p64.length := by rw [p64_len]; exact h
  rw [List.getD_eq_getElem?_getD, List.getElem?_eq_getElem hl]
  exact pos_ok _ (List.getElem_mem hl)
theorem root3 (p : Nat) (w : World) (hp : p < 65536) : Calls Tryd.prog 18 #[.int .u64 (p : Int), .int .i64 3] w fun e w' => ∃ lo : Nat, e = .returned (.int .u32 ((lo : Int) % 4294967296)) ∧ isRoot p 3 lo ∧ Below w.heap.size w w' := root_any p 3 w (.inr rfl) hp
theorem root2 (p : Nat) (w : World) (hp : p < 65536) : Calls Tryd.prog 18 #[.int .u64 (p : Int), .int .i64 2] w fun e w' => ∃ lo : Nat, e = .returned (.int .u32 ((lo : Int) % 4294967296)) ∧ isRoot p 2 lo ∧ Below w.heap.size w w' := root_any p 2 w (.inl rfl) hp
/-- Seventy-two noughts as cells. -/
def z72 : Array Value := rowW (List.replicate 72 0)
theorem zero34 (w : World) : (zeroValue 50).run Tryd.prog w = .ok (.agg z72) w := by kernel_rfl
set_option maxRecDepth 100000 in
set_option maxHeartbeats 1000000 in
theorem new_any (w : World) :
    Calls Tryd.prog 5 #[] w fun e w' => e = .returned (.pointer (some ⟨w.heap.size, 0, none⟩)) ∧ HasW w' w.heap.size 50 (newTo 64) ∧ Below w.heap.size w w' := by
  have hz := zero34
  go_enter Tryd.func5, Tryd.ntmps5
  go_wp2_with fail
  refine (primes_any _).mono ?_
  rintro e w1 ⟨g, cap, rfl, hr1, hb1⟩
  have hW1 : HasW w1 w.heap.size 50 (newTo 0) := by
    rw [new_zero]
    exact (HasR.new w 50 z72).below hb1 (by simp)
  have hB1 : Below w.heap.size w w1 := ((Below.refl _ w).alloc (Nat.le_refl _) _).trans (hb1.mono (by simp))
  simp only [World.size_alloc] at hr1
  clear hz hb1
  go_wp2_with fail
  go_loopw [8] (fun i wr => ∃ k : Nat, k ≤ 64 ∧ i = .int .i64 k ∧ HasW wr w.heap.size 50 (newTo k) ∧ BR wr (w.heap.size + 1) 3 g 64 cap (intV p64) ∧ Below w.heap.size w wr)
    (fun i _ => 64 - (intOf i).toNat)
  case atStart => exact ⟨0, by omega, rfl, hW1, hr1, hB1⟩
  case round =>
    clear hW1 hr1 hB1
    obtain ⟨k, hk, rfl, hW, hr, hb⟩ := hrel
    have hgb := hr.base
    have hgl := hr.lt
    by_cases hlt : k < 64
    · have hcp := br_i64 hr k hlt
      have hpb := p64_bd k hlt
      have hpw : IntKind.u64.wrap ((p64.getD k 0 : Nat) : Int) = ((p64.getD k 0 : Nat) : Int) := by rw [IntKind.wrap_u64]; omega
      have hrK := hide (rootK k)
      have hrH := hide (rootH k)
      generalize p64.getD k 0 = p at hcp hpb hpw hrK hrH
      have hi0 : (0 : Int) ≤ (k : Int) := by omega
      have hi1 : (k : Int) < 64 := by omega
      have hln := newTo_len k hk
      have hset1 := hide (show (newTo k).length = 72 from hln)
      by_cases h8 : k < 8
      · have hnx := hide (new_low k h8)
        have hi2 : (k : Int) < 8 := by omega
        generalize wd kTab k = yk at hrK hnx
        generalize wd st0.l k = yh at hrH hnx
        generalize hNk : newTo k = Lk at hW hln hnx
        clear hNk
        go_wp2_with fail
        go_region_with (first | (go_at_call 18; refine (root3 p _ (by omega)).mono ?_; rintro e w1 ⟨lo, rfl, hlo, hb1⟩; have hW1 : HasW w1 w.heap.size 50 Lk := hW.drew.below hb1 hW.lt; have hcw := hW1.cell (8 + k) (by omega); have hfw := hW1.free (8 + k); have hv := hrK.out lo hlt hlo; rw [hv]))
        have hr1 : BR w1 (w.heap.size + 1) 3 g 64 cap (intV p64) := hr.drew.below hb1 hgl
        have hB1 : Below w.heap.size w w1 := hb.drew.trans (hb1.mono hb.size)
        have hW2 := hW1.set (8 + k) yk
        have hr2 := hr1.other ⟨w.heap.size, 8 + k, none⟩ (by simp; omega) (.int .u32 (N yk))
        have hB2 := hB1.setCell (p := ⟨w.heap.size, 8 + k, none⟩) (Nat.le_refl _) (.int .u32 (N yk))
        clear hW hr hb hb1 hr1 hB1 hcw hfw hW1 hcp
        go_wp2_with fail
        go_region_with (first | (go_at_call 18; refine (root2 p _ (by omega)).mono ?_; rintro e w3 ⟨lo2, rfl, hlo2, hb3⟩; have hW3 : HasW w3 w.heap.size 50 (Lk.set (8 + k) yk) := hW2.drew.below hb3 hW2.lt; have hcw := hW3.cell k (by rw [List.length_set]; omega); have hfw := hW3.free k; have hv2 := hrH.out lo2 h8 hlo2; rw [hv2]))
        go_wp2
        go_roundw
        case rel =>
          have hW4 := hW3.set k yh
          rw [hnx.out] at hW4
          exact ⟨k + 1, by omega, by go_num, hW4, (hr2.drew.below hb3 (by have := hr2.lt; exact this)).other ⟨w.heap.size, k, none⟩ (by simp; omega) _, (hB2.drew.trans (hb3.mono hB2.size)).setCell (p := ⟨w.heap.size, k, none⟩) (Nat.le_refl _) _⟩
        case measure => simp [intOf]; omega
      · have hnx := hide (new_high k (by omega) hlt)
        have hi2 : decide ((k : Int) < 8) = false := by simp; omega
        generalize wd kTab k = yk at hrK hnx
        generalize hNk : newTo k = Lk at hW hln hnx
        clear hNk
        go_wp2_with fail
        go_region_with (first | (go_at_call 18; refine (root3 p _ (by omega)).mono ?_; rintro e w1 ⟨lo, rfl, hlo, hb1⟩; have hW1 : HasW w1 w.heap.size 50 Lk := hW.drew.below hb1 hW.lt; have hcw := hW1.cell (8 + k) (by omega); have hfw := hW1.free (8 + k); have hv := hrK.out lo hlt hlo; rw [hv]))
        have hr1 : BR w1 (w.heap.size + 1) 3 g 64 cap (intV p64) := hr.drew.below hb1 hgl
        have hB1 : Below w.heap.size w w1 := hb.drew.trans (hb1.mono hb.size)
        clear hW hr hb hb1 hcp
        go_wp2
        go_roundw
        case rel =>
          have hW4 := hW1.set (8 + k) yk
          rw [hnx.out] at hW4
          exact ⟨k + 1, by omega, by go_num, hW4, hr1.other ⟨w.heap.size, 8 + k, none⟩ (by simp; omega) _, hB1.setCell (p := ⟨w.heap.size, 8 + k, none⟩) (Nat.le_refl _) _⟩
        case measure => simp [intOf]; omega
    · obtain rfl : k = 64 := by omega
      go_wp2
      go_ret
      exact ⟨rfl, hW, hb⟩
end Go.Proofs.YtjobghphjkeohaaDoor

/- The law's own looks: at a text's length, at errors; the document's numbers as New lays them. -/
namespace Go.Proofs.YtjobghphjkeohaaDoor
open Go.RowKit
attribute [local go_sem ↓] Go.wp_at_zero Go.wp_at_succ
set_option maxRecDepth 100000 in
set_option maxHeartbeats 400000 in
theorem long_any (s : ByteArray) (w : World) : Calls Tryd.prog 16 #[.string s] w fun e w' => e = .returned (.bool (decide (60 < s.size))) ∧ w' = w := by
  go_enter Tryd.func16, Tryd.ntmps16
  go_wp2
  go_ret
  exact ⟨ret_val (by simp; omega), rfl⟩
set_option maxRecDepth 100000 in
set_option maxHeartbeats 400000 in
/-- The law's look at an error of the program's own and the document's number of it. -/
theorem bare_same (n : Int) (w : World) (hE : TabE w) : Calls Tryd.prog 8 #[.iface 27 (.int .i64 n), .int .i64 n] w fun e w' => e = .returned (.bool true) ∧ Below w.heap.size w w' := by
  have Q := hide (place_arg n w hE)
  go_enter Tryd.func8, Tryd.ntmps8
  go_wp2_with (go_at_call 22; refine Q.out.mono ?_; rintro e w1 ⟨rfl, hb⟩)
  go_ret
  exact ⟨rfl, hb⟩
theorem same_below {P : Program} {f : FuncId} {args : Array Value} {w : World} {v : Value} (h : Calls P f args w fun e w' => e = .returned v ∧ w' = w) : Calls P f args w fun e w' => e = .returned v ∧ Below w.heap.size w w' :=
  h.mono fun _ _ ⟨he, hw⟩ => ⟨he, hw ▸ Below.refl _ _⟩
theorem refR_of {w : World} {b : Nat} (h : HasW w b 50 (newTo 64)) : RefR w b := by
  rw [new_full] at h
  have h8 : st0.l.length = 8 := rfl
  have h64 : kTab.length = 64 := rfl
  refine ⟨fun i hi => ?_, fun i hi => ?_⟩
  · rw [h.cell i (by simp [h8, h64]; omega)]
    congr 3
    unfold wd
    rw [List.getD_eq_getElem?_getD, List.getElem?_append_left (by omega), ← List.getD_eq_getElem?_getD]
  · rw [h.cell (8 + i) (by simp [h8, h64]; omega)]
    congr 3
    unfold wd
    rw [List.getD_eq_getElem?_getD, List.getElem?_append_right (by omega), ← List.getD_eq_getElem?_getD]
    congr 1
    omega
end Go.Proofs.YtjobghphjkeohaaDoor
