/- Texts of this proof, one behind the other. -/
import Derived.Deep.RegionHeld3
import Derived.Deep.DrawnRows
import Derived.Deep.QuietTactic
import Derived.BigQuiet
import Derived.Test.YtjobghphjkeohaaDoorPart7
/- Who may be called so: the program's own Name and the document's come to one answer. -/
namespace Go.Proofs.YtjobghphjkeohaaDoor
open Go.RowKit
/-- A letter; a digit. -/
def letB (c : UInt8) : Bool := decide (97 ≤ c.toNat) && decide (c.toNat ≤ 122)
def digB (c : UInt8) : Bool := decide (48 ≤ c.toNat) && decide (c.toNat ≤ 57)
/-- What may stand at a place of a name. -/
def okAt (l : List UInt8) (i : Nat) : Bool := letB (l.getD i 0) || (!decide (i = 0) && digB (l.getD i 0))
/-- A name. -/
def nameB (l : List UInt8) : Bool := (decide (1 ≤ l.length) && decide (l.length ≤ 10)) && (List.range l.length).all (okAt l)
theorem nameB_bad {l : List UInt8} {k : Nat} (h : k < l.length) (hk : okAt l k = false) : nameB l = false := by
  unfold nameB
  have : (List.range l.length).all (okAt l) = false := by
    rw [List.all_eq_false]
    exact ⟨k, List.mem_range.2 h, by rw [hk]; decide⟩
  rw [this, Bool.and_false]
theorem nameB_all {l : List UInt8} (h : ∀ j, j < l.length → okAt l j = true) : nameB l = (decide (1 ≤ l.length) && decide (l.length ≤ 10)) := by
  unfold nameB
  have : (List.range l.length).all (okAt l) = true := List.all_eq_true.2 fun x hx => h x (List.mem_range.1 hx)
  rw [this, Bool.and_true]
set_option maxRecDepth 100000 in
set_option maxHeartbeats 400000 in
theorem letter_any (c : UInt8) (w : World) : Calls Tryd.prog 35 #[.int .u8 (c.toNat : Int)] w fun e w' => e = .returned (.bool (letB c)) ∧ w' = w := by
  unfold letB
  by_cases h1 : 97 ≤ c.toNat
  · have d1 : decide ((97 : Int) ≤ (c.toNat : Int)) = true := by simp; omega
    go_enter Tryd.func35, Tryd.ntmps35
    go_wp2
    go_ret
    exact ⟨ret_val (by simp [h1]; omega), rfl⟩
  · have d1 : decide ((97 : Int) ≤ (c.toNat : Int)) = false := by simp; omega
    go_enter Tryd.func35, Tryd.ntmps35
    go_wp2
    go_ret
    exact ⟨ret_val (by simp [h1]), rfl⟩
set_option maxRecDepth 100000 in
set_option maxHeartbeats 400000 in
theorem digit_any (c : UInt8) (w : World) : Calls Tryd.prog 36 #[.int .u8 (c.toNat : Int)] w fun e w' => e = .returned (.bool (digB c)) ∧ w' = w := by
  unfold digB
  by_cases h1 : 48 ≤ c.toNat
  · have d1 : decide ((48 : Int) ≤ (c.toNat : Int)) = true := by simp; omega
    go_enter Tryd.func36, Tryd.ntmps36
    go_wp2
    go_ret
    exact ⟨ret_val (by simp [h1]; omega), rfl⟩
  · have d1 : decide ((48 : Int) ≤ (c.toNat : Int)) = false := by simp; omega
    go_enter Tryd.func36, Tryd.ntmps36
    go_wp2
    go_ret
    exact ⟨ret_val (by simp [h1]), rfl⟩
end Go.Proofs.YtjobghphjkeohaaDoor

/- Who may be called so: the program's own Name and the document's come to one answer, for every text. -/
namespace Go.Proofs.YtjobghphjkeohaaDoor
open Go.RowKit
attribute [local go_sem ↓] Go.wp_at_zero Go.wp_at_succ
set_option maxRecDepth 100000 in
set_option maxHeartbeats 1000000 in
theorem name_any (s : ByteArray) (w : World) : Calls Tryd.prog 23 #[.string s] w fun e w' => e = .returned (.bool (nameB s.data.toList)) ∧ w' = w := by
  obtain ⟨l, hl⟩ : ∃ l, l = s.data.toList := ⟨_, rfl⟩
  have hs : l.length = s.size := by rw [hl]; exact Array.length_toList
  rw [← hl]
  by_cases h1 : s.size < 1
  · have d1 : decide ((s.size : Int) < 1) = true := by simp; omega
    have hf : nameB l = false := by unfold nameB; rw [decide_eq_false (by omega)]; rfl
    rw [hf]
    go_enter Tryd.func23, Tryd.ntmps23
    go_wp2
    go_ret
    exact ⟨rfl, rfl⟩
  have d1 : decide ((s.size : Int) < 1) = false := by simp; omega
  by_cases h2 : 10 < s.size
  · have d2 : decide ((10 : Int) < (s.size : Int)) = true := by simp; omega
    have hf : nameB l = false := by unfold nameB; rw [decide_eq_false (p := l.length ≤ 10) (by omega)]; simp
    rw [hf]
    go_enter Tryd.func23, Tryd.ntmps23
    go_wp2
    go_ret
    exact ⟨rfl, rfl⟩
  have d2 : decide ((10 : Int) < (s.size : Int)) = false := by simp; omega
  have b0 : ∀ wx, (Instr.index 9 (.string s) (.int .i64 0)).run Tryd.prog wx = .ok (.int .u8 (((l.getD 0 0).toNat : Nat) : Int)) wx := fun wx => by rw [hl]; exact byte_get s 0 (by omega) wx
  have bk := hide (fun (k : Nat) (hk : k < s.size) wx => byte_get s k hk wx)
  rw [← hl] at bk
  clear hl
  by_cases h3 : letB (l.getD 0 0) = true
  · have L0 := hide (fun wx => letter_any (l.getD 0 0) wx)
    have o0 : okAt l 0 = true := by unfold okAt; rw [h3]; rfl
    have O0 := hide o0
    generalize l.getD 0 0 = c0 at b0 L0 h3
    rw [h3] at L0
    go_enter Tryd.func23, Tryd.ntmps23
    go_wp2_with (go_at_call 35; (with_reducible refine (L0.out _).mono ?_); rintro e w1 ⟨rfl, rfl⟩)
    clear L0 b0 d1 d2 h3
    go_loopw [20] (fun i wr => ∃ k : Nat, k ≤ s.size ∧ i = .int .i64 k ∧ wr = w1 ∧ Hid (∀ j, j < k → okAt l j = true)) (fun i _ => s.size - (intOf i).toNat)
    case atStart => exact ⟨0, by omega, rfl, rfl, hide fun j hj => absurd hj (by omega)⟩
    case round =>
      obtain ⟨k, hk, rfl, rfl, hall⟩ := hrel
      by_cases hlt : k < s.size
      · have i1 : (k : Int) < (s.size : Int) := by omega
        have b1 := fun wx => bk.out k hlt wx
        have L1 := hide (fun wx => letter_any (l.getD k 0) wx)
        have D1 := hide (fun wx => digit_any (l.getD k 0) wx)
        have hok : okAt l k = (letB (l.getD k 0) || (!decide (k = 0) && digB (l.getD k 0))) := rfl
        have HOK := hide hok
        clear hok bk
        generalize l.getD k 0 = c at b1 L1 D1 HOK
        cases e1 : letB c
        · rw [e1] at L1 HOK
          cases e2 : digB c
          · rw [e2] at D1 HOK
            go_wp2_with (first
              | (go_at_call 35; (with_reducible refine (L1.out _).mono ?_); rintro e w1 ⟨rfl, rfl⟩)
              | (go_at_call 36; (with_reducible refine (D1.out _).mono ?_); rintro e w1 ⟨rfl, rfl⟩))
            go_ret
            refine ⟨ret_val ?_, rfl⟩
            rw [nameB_bad (k := k) (by omega) (HOK.out.trans (by simp))]
            rfl
          · rw [e2] at D1 HOK
            go_wp2_with (first
              | (go_at_call 35; (with_reducible refine (L1.out _).mono ?_); rintro e w1 ⟨rfl, rfl⟩)
              | (go_at_call 36; (with_reducible refine (D1.out _).mono ?_); rintro e w1 ⟨rfl, rfl⟩))
            go_roundw
            case rel =>
              refine ⟨k + 1, by omega, by go_num, trivial, hide fun j hj => ?_⟩
              by_cases hj0 : j = 0
              · rw [hj0]; exact O0.out
              · by_cases hjk : j = k
                · rw [hjk]; exact HOK.out.trans (by rw [hjk] at hj0; simp [hj0])
                · exact hall.out j (by omega)
            case measure => simp [intOf]; omega
        · rw [e1] at L1 HOK
          go_wp2_with (go_at_call 35; (with_reducible refine (L1.out _).mono ?_); rintro e w1 ⟨rfl, rfl⟩)
          go_roundw
          case rel =>
            refine ⟨k + 1, by omega, by go_num, trivial, hide fun j hj => ?_⟩
            by_cases hjk : j = k
            · rw [hjk]; exact HOK.out
            · exact hall.out j (by omega)
          case measure => simp [intOf]; omega
      · have i1 : ¬ (k : Int) < (s.size : Int) := by omega
        have hkk : k = s.size := by omega
        go_wp2
        go_ret
        refine ⟨ret_val ?_, rfl⟩
        rw [nameB_all (fun j hj => hall.out j (by omega)), decide_eq_true (by omega), decide_eq_true (by omega)]
        rfl
  · have L0 := hide (fun wx => letter_any (l.getD 0 0) wx)
    have o0 : nameB l = false := nameB_bad (k := 0) (by omega) (by unfold okAt; simp only [Bool.not_eq_true] at h3; rw [h3]; rfl)
    simp only [Bool.not_eq_true] at h3
    rw [o0]
    generalize l.getD 0 0 = c0 at b0 L0 h3
    rw [h3] at L0
    clear bk
    go_enter Tryd.func23, Tryd.ntmps23
    go_wp2_with (go_at_call 35; (with_reducible refine (L0.out _).mono ?_); rintro e w1 ⟨rfl, rfl⟩)
    go_ret
    exact ⟨rfl, rfl⟩
end Go.Proofs.YtjobghphjkeohaaDoor

/- Small: a number as eight bytes; four texts side by side. -/
namespace Go.Proofs.YtjobghphjkeohaaDoor
open Go.RowKit
attribute [local go_sem ↓] Go.wp_at_zero Go.wp_at_succ
def num3 (n : Nat) : ByteArray := ⟨(num8 n).toArray⟩
theorem num3_size (n : Nat) : (num3 n).size = 8 := num8_len n
theorem num_n (n : Nat) (h : n < 1000000) (w : World) : Calls Tryd.prog 33 #[.int .i64 (n : Int)] w fun e w' => e = .returned (.string (num3 n)) ∧ Below w.heap.size w w' := by
  have q := num_any (n : Int) w
  rw [u64of_nat n (by omega)] at q
  exact q
theorem app_head (a b : ByteArray) (h : a.size = 16) : (a ++ b).extract 0 16 = a := by
  rw [← h]
  exact ByteArray.extract_append_eq_left rfl
theorem app_rest (a b : ByteArray) (h : a.size = 16) : (a ++ b).extract 16 (a ++ b).size = b := by
  rw [← h]
  exact ByteArray.extract_append_eq_right rfl (by simp)
/-- Four texts that lie side by side are the parts of a mark. -/
theorem parts4 {w : World} (b : Nat) (p q r s : ByteArray) (hb : b < w.heap.size) (h0 : w.cell? ⟨b, 0, none⟩ = some (.string p)) (h1 : w.cell? ⟨b, 1, none⟩ = some (.string q)) (h2 : w.cell? ⟨b, 2, none⟩ = some (.string r)) (h3 : w.cell? ⟨b, 3, none⟩ = some (.string s)) :
    Parts w (.slice (some ⟨b, 0, none⟩) 4 4) [p, q, r, s] := by
  refine ⟨_, 4, rfl, .inr ⟨b, 0, rfl, hb, fun k hk => ?_⟩⟩
  have hk' : k < 4 := hk
  match k, hk' with
  | 0, _ => exact h0
  | 1, _ => exact h1
  | 2, _ => exact h2
  | 3, _ => exact h3
end Go.Proofs.YtjobghphjkeohaaDoor
