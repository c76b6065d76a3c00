/- Texts of this proof, one behind the other. -/
import Derived.Deep.RegionHeld3
import Derived.Deep.DrawnRows
import Derived.Deep.QuietTactic
import Derived.BigQuiet
import Derived.Test.YtjobghphjkeohaaDoorPart12
/- Letters and names: what the other texts have not. -/
namespace Go.Proofs.YtjobghphjkeohaaDoor
open Go.RowKit
end Go.Proofs.YtjobghphjkeohaaDoor

/- A name: the document's own way. -/
namespace Go.Proofs.YtjobghphjkeohaaDoor
open Go.RowKit
attribute [local go_sem ↓] Go.wp_at_zero Go.wp_at_succ
set_option maxRecDepth 100000 in
set_option maxHeartbeats 1000000 in
theorem refName_any (s : ByteArray) (w : World) (hs0 : s.size ≤ 1000) : Calls Tryd.prog 25 #[.string s] w fun e w' => e = .returned (.bool (nameB s.data.toList)) ∧ w' = w := by
  obtain ⟨l, hl⟩ : ∃ l, l = s.data.toList := ⟨_, rfl⟩
  have hs : l.length = s.size := by rw [hl]; exact Array.length_toList
  rw [← hl]
  have bk := hide (fun (k : Nat) (hk : k < s.size) wx => byte_get s k hk wx)
  rw [← hl] at bk
  clear hl
  have Q := hide (fun wx => in_any (s.size : Int) 1 10 wx)
  go_enter Tryd.func25, Tryd.ntmps25
  go_wp2
  go_loopw [7] (fun i wr => ∃ k : Nat, k ≤ s.size ∧ i = .int .i64 k ∧ wr = w ∧ Hid (∀ j, j < k → okAt l j = true)) (fun i _ => s.size - (intOf i).toNat)
  case atStart => exact ⟨0, by omega, rfl, rfl, hide fun j hj => absurd hj (by omega)⟩
  case round =>
    obtain ⟨k, hk, rfl, rfl, hall⟩ := hrel
    by_cases hlt : k < s.size
    · have i1 : (k : Int) < (s.size : Int) := by omega
      have b1 := fun wx => bk.out k hlt wx
      have hok : okAt l k = (letB (l.getD k 0) || (!decide (k = 0) && digB (l.getD k 0))) := rfl
      have HOK := hide hok
      clear hok bk Q
      generalize l.getD k 0 = c at b1 HOK
      by_cases h1 : 97 ≤ c.toNat
      · have q1 : decide ((97 : Int) ≤ (c.toNat : Int)) = true := by simp; omega
        by_cases h2 : c.toNat ≤ 122
        · have q2 : decide ((c.toNat : Int) ≤ 122) = true := by simp; omega
          go_wp2
          go_roundw
          case rel =>
            refine ⟨k + 1, by omega, by go_num, trivial, hide fun j hj => ?_⟩
            by_cases hjk : j = k
            · rw [hjk]; exact HOK.out.trans (by unfold letB digB; simp; omega)
            · exact hall.out j (by omega)
          case measure => simp [intOf]; omega
        · have q2 : decide ((c.toNat : Int) ≤ 122) = false := by simp; omega
          by_cases h0 : k = 0
          · subst h0
            have b2 : ∀ wx, (Instr.index 9 (.string s) (.int .i64 0)).run Tryd.prog wx = .ok (.int .u8 ((c.toNat : Nat) : Int)) wx := b1
            clear b1
            go_wp2
            go_ret
            refine ⟨ret_val ?_, rfl⟩
            rw [nameB_bad (k := 0) (by omega) (HOK.out.trans (by unfold letB digB; simp; omega))]
            rfl
          · have q0 : ((k : Int) == 0) = false := by simp; omega
            by_cases h3 : 48 ≤ c.toNat
            · have q3 : decide ((48 : Int) ≤ (c.toNat : Int)) = true := by simp; omega
              by_cases h4 : c.toNat ≤ 57
              · have q4 : decide ((c.toNat : Int) ≤ 57) = true := by simp; omega
                go_wp2
                go_roundw
                case rel =>
                  refine ⟨k + 1, by omega, by go_num, trivial, hide fun j hj => ?_⟩
                  by_cases hjk : j = k
                  · rw [hjk]; exact HOK.out.trans (by unfold letB digB; simp; omega)
                  · exact hall.out j (by omega)
                case measure => simp [intOf]; omega
              · have q4 : decide ((c.toNat : Int) ≤ 57) = false := by simp; omega
                go_wp2
                go_ret
                refine ⟨ret_val ?_, rfl⟩
                rw [nameB_bad (k := k) (by omega) (HOK.out.trans (by unfold letB digB; simp; omega))]
                rfl
            · have q3 : decide ((48 : Int) ≤ (c.toNat : Int)) = false := by simp; omega
              go_wp2
              go_ret
              refine ⟨ret_val ?_, rfl⟩
              rw [nameB_bad (k := k) (by omega) (HOK.out.trans (by unfold letB digB; simp; omega))]
              rfl
      · have q1 : decide ((97 : Int) ≤ (c.toNat : Int)) = false := by simp; omega
        by_cases h0 : k = 0
        · subst h0
          have b2 : ∀ wx, (Instr.index 9 (.string s) (.int .i64 0)).run Tryd.prog wx = .ok (.int .u8 ((c.toNat : Nat) : Int)) wx := b1
          clear b1
          go_wp2
          go_ret
          refine ⟨ret_val ?_, rfl⟩
          rw [nameB_bad (k := 0) (by omega) (HOK.out.trans (by unfold letB digB; simp; omega))]
          rfl
        · have q0 : ((k : Int) == 0) = false := by simp; omega
          by_cases h3 : 48 ≤ c.toNat
          · have q3 : decide ((48 : Int) ≤ (c.toNat : Int)) = true := by simp; omega
            by_cases h4 : c.toNat ≤ 57
            · have q4 : decide ((c.toNat : Int) ≤ 57) = true := by simp; omega
              go_wp2
              go_roundw
              case rel =>
                refine ⟨k + 1, by omega, by go_num, trivial, hide fun j hj => ?_⟩
                by_cases hjk : j = k
                · rw [hjk]; exact HOK.out.trans (by unfold letB digB; simp; omega)
                · exact hall.out j (by omega)
              case measure => simp [intOf]; omega
            · have q4 : decide ((c.toNat : Int) ≤ 57) = false := by simp; omega
              go_wp2
              go_ret
              refine ⟨ret_val ?_, rfl⟩
              rw [nameB_bad (k := k) (by omega) (HOK.out.trans (by unfold letB digB; simp; omega))]
              rfl
          · have q3 : decide ((48 : Int) ≤ (c.toNat : Int)) = false := by simp; omega
            go_wp2
            go_ret
            refine ⟨ret_val ?_, rfl⟩
            rw [nameB_bad (k := k) (by omega) (HOK.out.trans (by unfold letB digB; simp; omega))]
            rfl
    · have i1 : ¬ (k : Int) < (s.size : Int) := by omega
      have hkk : k = s.size := by omega
      have hn : (decide ((1 : Int) ≤ (s.size : Int)) && decide ((s.size : Int) ≤ 10)) = nameB l := by
        rw [nameB_all (fun j hj => hall.out j (by omega)), hs]
        congr 1
        · exact decide_eq_decide.2 (by omega)
        · exact decide_eq_decide.2 (by omega)
      rw [hn] at Q
      go_wp2_with (go_at_call 24; (with_reducible refine (Q.out _).mono ?_); rintro e w1 ⟨rfl, rfl⟩)
      go_ret
      exact ⟨rfl, rfl⟩
end Go.Proofs.YtjobghphjkeohaaDoor

/- The document's formulas for the sum, and that they come to the same words. -/
namespace Go.Proofs.YtjobghphjkeohaaDoor
open Go

theorem choice_eq (e f g : BitVec 32) : g ^^^ e &&& (f ^^^ g) = (e &&& f) ^^^ (~~~e &&& g) := by
  apply BitVec.eq_of_getLsbD_eq
  intro i hi
  simp only [BitVec.getLsbD_xor, BitVec.getLsbD_and, BitVec.getLsbD_not, hi, decide_true, Bool.true_and]
  cases e.getLsbD i <;> cases f.getLsbD i <;> cases g.getLsbD i <;> rfl
theorem most_eq (a b c : BitVec 32) : a &&& b ||| c &&& (a ||| b) = (a &&& b) ^^^ (a &&& c) ^^^ (b &&& c) := by
  apply BitVec.eq_of_getLsbD_eq
  intro i _
  simp only [BitVec.getLsbD_xor, BitVec.getLsbD_and, BitVec.getLsbD_or]
  cases a.getLsbD i <;> cases b.getLsbD i <;> cases c.getLsbD i <;> rfl
theorem one_eq (s : St) (k w : BitVec 32) : s.h + (rr s.e 6 ^^^ rr s.e 11 ^^^ rr s.e 25) + (s.g ^^^ s.e &&& (s.f ^^^ s.g)) + k + w = tA s (w + k) := by
  unfold tA
  rw [choice_eq]
  ac_rfl
theorem two_eq (s : St) : (rr s.a 2 ^^^ rr s.a 13 ^^^ rr s.a 22) + (s.a &&& s.b ||| s.c &&& (s.a ||| s.b)) = tB s := by
  unfold tB
  rw [most_eq]
/-- The document's schedule, its first t words made. -/
def schR (l : List UInt8) (t : Nat) : List (BitVec 32) := if t ≤ 16 then sch0 l t else schT l (t - 16)
theorem schR_len (l : List UInt8) (t : Nat) : (schR l t).length = 64 := by
  unfold schR
  split
  · exact sch0_len l t (by omega)
  · exact schT_len l _
theorem schR_low (l : List UInt8) (t : Nat) (h : t < 16) : (schR l t).set t (wordAt l t) = schR l (t + 1) := by
  unfold schR
  rw [if_pos (by omega), if_pos (by omega)]
  exact sch0_succ l t (by omega)
theorem schR_low0 (l : List UInt8) (t : Nat) (h : t < 16) : wd (schR l t) t = 0 := by
  unfold schR
  rw [if_pos (by omega)]
  unfold wd sch0
  rw [List.getD_eq_getElem?_getD, List.getElem?_append_right (by simp)]
  simp only [List.length_map, List.length_range, Nat.sub_self, List.getElem?_replicate]
  split <;> rfl
theorem schR_16 (l : List UInt8) (k : Nat) : schR l (k + 16) = schT l k := by
  unfold schR
  by_cases h : k = 0
  · subst h; rfl
  · rw [if_neg (by omega)]
    congr 1
theorem schR_high (l : List UInt8) (k : Nat) :
    (schR l (k + 16)).set (k + 16) ((rr (wd (schR l (k + 16)) (k + 14)) 17 ^^^ rr (wd (schR l (k + 16)) (k + 14)) 19 ^^^ wd (schR l (k + 16)) (k + 14) >>> 10) + wd (schR l (k + 16)) (k + 9) + (rr (wd (schR l (k + 16)) (k + 1)) 7 ^^^ rr (wd (schR l (k + 16)) (k + 1)) 18 ^^^ wd (schR l (k + 16)) (k + 1) >>> 3) + wd (schR l (k + 16)) k) = schR l (k + 17) := by
  have e : schR l (k + 17) = schT l (k + 1) := schR_16 l (k + 1)
  rw [e, schR_16]
  show _ = (schT l k).set (k + 16) (nxt (schT l k) k)
  congr 1
  unfold nxt
  ac_rfl
theorem schR_full (l : List UInt8) : schR l 64 = sched l := schR_16 l 48
/-- A word out of q of its bytes. -/
def partW (p q r s : UInt8) : Nat → BitVec 32
  | 0 => 0
  | 1 => 0 <<< 8 + bw p
  | 2 => (0 <<< 8 + bw p) <<< 8 + bw q
  | 3 => ((0 <<< 8 + bw p) <<< 8 + bw q) <<< 8 + bw r
  | _ => (((0 <<< 8 + bw p) <<< 8 + bw q) <<< 8 + bw r) <<< 8 + bw s
theorem partW_full (p q r s : UInt8) : partW p q r s 4 = word4 p q r s := by
  have hp : p.toNat < 256 := p.toNat_lt
  have hq : q.toNat < 256 := q.toNat_lt
  have hr : r.toNat < 256 := r.toNat_lt
  have hs : s.toNat < 256 := s.toNat_lt
  apply BitVec.eq_of_toNat_eq
  have e1 : (word4 p q r s).toNat = p.toNat * 16777216 + q.toNat * 65536 + r.toNat * 256 + s.toNat := by
    unfold word4
    simp only [BitVec.toNat_or, BitVec.toNat_shiftLeft, bw_nat, Nat.shiftLeft_eq]
    show p.toNat * 16777216 % 4294967296 ||| q.toNat * 65536 % 4294967296 ||| r.toNat * 256 % 4294967296 ||| s.toNat = _
    have a1 : p.toNat * 16777216 % 4294967296 = p.toNat * 16777216 := Nat.mod_eq_of_lt (by omega)
    have a2 : q.toNat * 65536 % 4294967296 = q.toNat * 65536 := Nat.mod_eq_of_lt (by omega)
    have a3 : r.toNat * 256 % 4294967296 = r.toNat * 256 := Nat.mod_eq_of_lt (by omega)
    rw [a1, a2, a3]
    exact nat4 _ _ _ _ hq hr hs
  rw [e1]
  unfold partW
  simp only [BitVec.toNat_add, BitVec.toNat_shiftLeft, bw_nat, Nat.shiftLeft_eq]
  simp
  omega
end Go.Proofs.YtjobghphjkeohaaDoor
