/- The document's own words of a text: what they come to. -/
import Derived.Test.YteckhejfmbiamaaDoorStream
namespace Go.Proofs.YteckhejfmbiamaaDoor
open Go.RowKit
attribute [local go_sem] N_addm N_byte N_shl8
attribute [local go_sem ↓] Go.wp_at_zero Go.wp_at_succ
theorem Tryd.info41' : (Tryd.prog.info? 49).map (fun i => (i.zero, i.size, i.bytes)) = some (some (.int .u32 0), 1, 4) := by kernel_rfl
theorem elemW : ∃ i, Elem Tryd.prog 67 49 i (.int .u32 0) 4 := by
  obtain ⟨i, hi, h0, h1, h2⟩ := info_parts Tryd.info41'
  exact ⟨i, Tryd.underlying67, hi, h0, h1, h2, rfl, by omega⟩
/-- Words as cells. -/
def wordsV (l : List (BitVec 32)) : List Value := l.map fun x => Value.int .u32 (N x)
theorem wordsV_len (l : List (BitVec 32)) : (wordsV l).length = l.length := by simp [wordsV]
theorem wordsV_app (l m : List (BitVec 32)) : wordsV (l ++ m) = wordsV l ++ wordsV m := by simp [wordsV]
theorem wordsV_one (l : List (BitVec 32)) : ∀ u ∈ wordsV l, u.oneCell' = true := by
  intro u hu
  simp only [wordsV, List.mem_map] at hu
  obtain ⟨c, _, rfl⟩ := hu
  rfl
theorem one_u32 (n : Int) : ∀ u ∈ [Value.int .u32 n], u.oneCell' = true := by
  intro u hu; simp at hu; subst hu; rfl
/-- A word out of k of its bytes. -/
def lpartW (p q r s : UInt8) : Nat → BitVec 32
  | 0 => 0
  | 1 => 0 <<< 8 + bw p
  | 2 => (0 <<< 8 + bw p) <<< 8 + bw q
  | 3 => ((0 <<< 8 + bw p) <<< 8 + bw q) <<< 8 + bw r
  | _ => (((0 <<< 8 + bw p) <<< 8 + bw q) <<< 8 + bw r) <<< 8 + bw s
theorem lpartW_step (p q r s : UInt8) (k : Nat) (h : k < 4) (c : UInt8) (hc : c = [p, q, r, s].getD k 0) : lpartW p q r s k <<< 8 + bw c = lpartW p q r s (k + 1) := by
  subst hc
  match k, h with
  | 0, _ => rfl
  | 1, _ => rfl
  | 2, _ => rfl
  | 3, _ => rfl
theorem or4 (a b c d : BitVec 32) : a ||| b ||| c ||| d = d ||| c ||| b ||| a := by
  rw [BitVec.or_comm (a ||| b ||| c) d, BitVec.or_comm (a ||| b) c, BitVec.or_comm a b, ← BitVec.or_assoc, ← BitVec.or_assoc]
theorem lpartW_full (p q r s : UInt8) : lpartW p q r s 4 = lword4 s r q p := by
  have hp : p.toNat < 256 := p.toNat_lt
  have hq : q.toNat < 256 := q.toNat_lt
  have hr : r.toNat < 256 := r.toNat_lt
  have hs : s.toNat < 256 := s.toNat_lt
  apply BitVec.eq_of_toNat_eq
  have e0 : lword4 s r q p = bw p <<< 24 ||| bw q <<< 16 ||| bw r <<< 8 ||| bw s := by
    unfold lword4
    exact or4 _ _ _ _
  have e1 : (lword4 s r q p).toNat = p.toNat * 16777216 + q.toNat * 65536 + r.toNat * 256 + s.toNat := by
    rw [e0]
    simp only [BitVec.toNat_or, BitVec.toNat_shiftLeft, bw_nat, Nat.shiftLeft_eq]
    show p.toNat * 16777216 % 4294967296 ||| q.toNat * 65536 % 4294967296 ||| r.toNat * 256 % 4294967296 ||| s.toNat = _
    have a1 : p.toNat * 16777216 % 4294967296 = p.toNat * 16777216 := Nat.mod_eq_of_lt (by omega)
    have a2 : q.toNat * 65536 % 4294967296 = q.toNat * 65536 := Nat.mod_eq_of_lt (by omega)
    have a3 : r.toNat * 256 % 4294967296 = r.toNat * 256 := Nat.mod_eq_of_lt (by omega)
    rw [a1, a2, a3]
    exact nat4 _ _ _ _ hq hr hs
  rw [e1]
  unfold lpartW
  simp only [BitVec.toNat_add, BitVec.toNat_shiftLeft, bw_nat, Nat.shiftLeft_eq]
  simp
  omega
/-- The first k words of a text. -/
def wordsTo (l : List UInt8) (k : Nat) : List (BitVec 32) := (List.range k).map (lwordAt l)
theorem wordsTo_succ (l : List UInt8) (k : Nat) : wordsTo l (k + 1) = wordsTo l k ++ [lwordAt l k] := by simp [wordsTo, List.range_succ]
theorem wordsTo_len (l : List UInt8) (k : Nat) : (wordsTo l k).length = k := by simp [wordsTo]
theorem wordsV_snoc (l : List UInt8) (k : Nat) (x : BitVec 32) (h : x = lwordAt l k) : wordsV (wordsTo l k) ++ [.int .u32 (N x)] = wordsV (wordsTo l (k + 1)) := by
  rw [wordsTo_succ, wordsV_app, h]; rfl
set_option maxRecDepth 100000 in
set_option maxHeartbeats 1000000 in
theorem words_any (s : ByteArray) (m : Nat) (hs : s.size = 4 * m) (hm : m ≤ 100) (hm0 : 0 < m) (w : World) :
    Calls Tryd.prog 40 #[.string s] w fun e w' => ∃ g cap, e = .returned (.slice (some ⟨g, 0, none⟩) m cap) ∧ BR w' w.heap.size 49 g m cap (wordsV (wordsTo s.data.toList m)) ∧ Below w.heap.size w w' := by
  obtain ⟨i41, hE⟩ := elemW
  go_enter Tryd.func40, Tryd.ntmps40
  go_wp2
  go_loopw [3, 4] (fun t i wr => ∃ k : Nat, k ≤ m ∧ i = .int .i64 (4 * k : Nat) ∧ BRn wr w.heap.size 49 t k (wordsV (wordsTo s.data.toList k)) ∧ Below w.heap.size w wr)
    (fun _ i _ => 4 * m - (intOf i).toNat)
  case atStart => exact ⟨0, by omega, rfl, BRn.nil _ _ _, Below.refl _ _⟩
  case round =>
    obtain ⟨k, hk, rfl, hr, hb⟩ := hrel
    have hbs := hb.size
    by_cases hlt : k < m
    · have x1 : ((4 * k : Nat) : Int) + 4 ≤ (s.size : Int) := by omega
      have hw : lwordAt s.data.toList k = lword4 (s.data.toList.getD (4 * k) 0) (s.data.toList.getD (4 * k + 1) 0) (s.data.toList.getD (4 * k + 2) 0) (s.data.toList.getD (4 * k + 3) 0) := rfl
      have b0 := byte_get s (4 * k) (by omega)
      have b1 := byte_get s (4 * k + 1) (by omega)
      have b2 := byte_get s (4 * k + 2) (by omega)
      have b3 := byte_get s (4 * k + 3) (by omega)
      rw [← lpartW_full] at hw
      generalize s.data.toList.getD (4 * k) 0 = c0 at hw b0
      generalize s.data.toList.getD (4 * k + 1) 0 = c1 at hw b1
      generalize s.data.toList.getD (4 * k + 2) 0 = c2 at hw b2
      generalize s.data.toList.getD (4 * k + 3) 0 = c3 at hw b3
      have HW := hide hw
      clear hw
      go_wp2
      go_loopw [5, 6] (fun n j wx => ∃ q : Nat, q ≤ 4 ∧ n = .int .u32 (N (lpartW c3 c2 c1 c0 q)) ∧ j = .int .i64 (3 - (q : Int)) ∧ wx = wr)
        (fun _ j _ => (intOf j + 1).toNat)
      case atStart => exact ⟨0, by omega, rfl, rfl, rfl⟩
      case round =>
        obtain ⟨q, hq, rfl, rfl, hwx⟩ := hrel
        subst hwx
        by_cases hq4 : q < 4
        · have hst := hide (fun c hc => lpartW_step c3 c2 c1 c0 q hq4 c hc)
          have hix : ∃ c, c = [c3, c2, c1, c0].getD q 0 ∧ ∀ wx, (Instr.index 9 (.string s) (.int .i64 (4 * (k : Int) + (3 - (q : Int))))).run Tryd.prog wx = .ok (.int .u8 ((c.toNat : Nat) : Int)) wx := by
            match q, hq4 with
            | 0, _ => exact ⟨c3, rfl, b3⟩
            | 1, _ => exact ⟨c2, rfl, b2⟩
            | 2, _ => exact ⟨c1, rfl, b1⟩
            | 3, _ => exact ⟨c0, rfl, b0⟩
          obtain ⟨c, hc, hix⟩ := hix
          have hst2 := hide (hst.out c hc)
          clear hst hc b0 b1 b2 b3
          generalize lpartW c3 c2 c1 c0 q = x at hst2 ⊢
          have y1 := N_shl8 x
          have y2 := N_byte c
          have y3 := N_addm (x <<< 8) (bw c)
          have y4 : (0 : Int) ≤ 3 - (q : Int) := by omega
          go_wp2
          go_roundw
          case rel => exact ⟨q + 1, by omega, by rw [N_addm, hst2.out], by simp; omega, by first | rfl | trivial⟩
          case measure => simp [intOf]; omega
        · obtain rfl : q = 4 := by omega
          have hsn := hide (wordsV_snoc s.data.toList k _ HW.out.symm)
          clear b0 b1 b2 b3 HW
          generalize lpartW c3 c2 c1 c0 4 = x at hsn ⊢
          generalize wordsV (wordsTo s.data.toList k) = xs at hr hsn
          go_wp2_with (at_builtin; refine append_br 49 hE w.heap.size _ k xs ⟨wr.heap.size, 0, none⟩ 1 1 [.int .u32 (N x)] rfl rfl (hr.alloc _) rfl (by omega) (news_one _ _) (one_u32 _) (by omega) (by simp; omega) ?_; intro g cap w' hb' hg hl hbel; rw [hsn.out] at hb')
          go_roundw
          case rel => exact ⟨k + 1, by omega, by go_num, BRn.of hb', (hb.alloc hbs _).trans hbel⟩
          case measure => simp [intOf]; omega
    · obtain rfl : k = m := by omega
      rcases hr with ⟨_, h0', _⟩ | ⟨g, cap, rfl, hr⟩
      · omega
      · have x1 : ¬ ((4 * k : Nat) : Int) + 4 ≤ (s.size : Int) := by omega
        have HR := hide hr
        clear hr
        go_wp2
        go_ret
        exact ⟨g, cap, rfl, HR.out, hb⟩
end Go.Proofs.YteckhejfmbiamaaDoor
