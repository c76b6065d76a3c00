/- Texts of this proof, one behind the other. -/
import Derived.Deep.RegionHeld3
import Derived.Deep.RegionWith
import Derived.Test.YtkbaalenbpgheaaGreatDoorPart15
/- Blocks and texts: what the program's own Block and Xor come to, for every key, number, nonce and text. -/
namespace Go.Proofs.YtkbaalenbpgheaaGreatDoor
open Go.RowKit
attribute [local go_sem] size_setCells
attribute [local go_sem ↓] Go.wp_at_zero Go.wp_at_succ
set_option maxRecDepth 100000 in
theorem fit_any (key nonce : ByteArray) (w : World) :
    Calls Tryz.prog 152 #[.string key, .string nonce] w fun e w' => e = .returned (.bool (decide (key.size = 32) && decide (nonce.size = 12))) ∧ w' = w := by
  by_cases h1 : key.size = 32
  · by_cases h2 : nonce.size = 12
    · have d1 : decide ((key.size : Int) = 32) = true := by simp; omega
      have d2 : decide ((nonce.size : Int) = 12) = true := by simp; omega
      go_enter Tryz.func152, Tryz.ntmps152
      go_wp2
      go_ret
      exact ⟨ret_val (by simp [h1, h2]), rfl⟩
    · have d1 : decide ((key.size : Int) = 32) = true := by simp; omega
      have d2 : decide ((nonce.size : Int) = 12) = false := by simp; omega
      go_enter Tryz.func152, Tryz.ntmps152
      go_wp2
      go_ret
      exact ⟨ret_val (by simp [h1, h2]; omega), rfl⟩
  · have d1 : decide ((key.size : Int) = 32) = false := by simp; omega
    go_enter Tryz.func152, Tryz.ntmps152
    go_wp2
    go_ret
    exact ⟨ret_val (by simp [h1]), rfl⟩
/-- Bytes turned into a text, whatever the block is called. -/
theorem conv_out' {ops : Array Oper} {rest : List Oper} {a : Act} {w : World} {Q : Exit → Act → World → Prop} {tt : TypeId} {pos : String} {af : Array Edge} {x : Operand} {d : Tmp} {base : Nat} {e : TypeId} (g n cap : Nat) (l : List UInt8) (hx : a.eval x = .slice (some ⟨g, 0, none⟩) n cap)
    (hr : BR w base e g n cap (bytesV l)) (h : wpList Tryz.prog ops Q rest (a.put (some d) (.string ⟨l.toArray⟩)) w) :
    wpList Tryz.prog ops Q (⟨some d, .convert 163 9 x, tt, pos, af, none⟩ :: rest) a w := by
  refine wpList_plain rfl fun K hK => ?_
  have hl : n = l.length := by rw [← hr.len, bytesV_len]
  subst hl
  have hrun := run_convert_bytes_back (P := Tryz.prog) w 163 9 5 ⟨g, 0, none⟩ cap l Tryz.underlying163 Tryz.underlying5 Tryz.underlying9 (fun j hj => by
    have hadd : (⟨g, 0, none⟩ : Addr).add j = ⟨g, j, none⟩ := by unfold Addr.add; split <;> simp_all
    rw [hadd, hr.cell j hj]
    simp [bytesV, hj])
  unfold Oper.wp execOp
  simp only [hx, Sem.run_bind, hrun, Result.andThen_ok, Sem.run_pure]
  exact hK _ _ h
theorem BR.of_row {w : World} {B : Nat} {t : TypeId} {l : List UInt8} (h : HasR w B t (rowB l)) (hl : l.length = 64) : BR w 0 t B 64 64 (bytesV l) :=
  ⟨by rw [bytesV_len, hl], Nat.zero_le _, Nat.le_refl _, rowB l, (0, 0), h, by rw [rowB_size, hl], by
    show (bytesV l).take 64 = _
    rw [List.take_of_length_le (by rw [bytesV_len]; omega)], .inl (Nat.le_refl _)⟩
theorem put_none (a : Act) (v : Value) : a.put none v = a := rfl
theorem B_xor (x y : UInt8) : bits .xor .u8 (x.toNat : Int) (y.toNat : Int) = ((x ^^^ y).toNat : Int) := by
  rw [u8_xor_nat _ _ x.toNat_lt y.toNat_lt, UInt8.toNat_xor]
theorem BR.free {w : World} {base : Nat} {e : TypeId} {g n cap : Nat} {xs : List Value} (h : BR w base e g n cap xs) (j : Nat) (hj : j < n) : w.frozen? ⟨g, j, none⟩ = false := by
  obtain ⟨cur, fr, hg, hs, ht, hf⟩ := h.blk
  have hle := h.le
  unfold World.frozen?
  simp only [hg]
  rcases hf with h5 | h5
  · simp; omega
  · simp; omega
theorem BR.cellB {w : World} {base : Nat} {e : TypeId} {g n cap : Nat} {l : List UInt8} (h : BR w base e g n cap (bytesV l)) (j : Nat) (hj : j < n) : w.cell? ⟨g, j, none⟩ = some (.int .u8 ((l.getD j 0).toNat : Int)) := by
  have hl := h.len
  rw [bytesV_len] at hl
  rw [h.cell j hj]
  simp [bytesV, hl, hj]
theorem BR.setB {w : World} {base : Nat} {e : TypeId} {g n cap : Nat} {l : List UInt8} (h : BR w base e g n cap (bytesV l)) (j : Nat) (x : UInt8) : BR (w.setCell ⟨g, j, none⟩ (.int .u8 (x.toNat : Int))) base e g n cap (bytesV (l.set j x)) := by
  obtain ⟨cur, fr, hg, hs, ht, hf⟩ := h.blk
  have hle := h.le
  have hl := h.len
  refine ⟨by rw [bytesV_len, List.length_set, ← bytesV_len]; exact hl, h.base, h.le, cur.setIfInBounds j (.int .u8 (x.toNat : Int)), fr, ?_, by simpa using hs, ?_, hf⟩
  · simp [World.setCell, Array.getElem?_modify, hg]
  · rw [Array.toList_setIfInBounds, List.take_set, ht]
    simp [bytesV, List.map_set]
theorem keyAt_block (key nonce : List UInt8) (m i : Nat) (h : i < 64) : keyAt key nonce (64 * m + i) = (blockL key (BitVec.ofNat 32 (1 + m)) nonce).getD i 0 := by
  unfold keyAt
  have e1 : (64 * m + i) / 64 = m := by omega
  have e2 : (64 * m + i) % 64 = i := by omega
  rw [e1, e2]
theorem xorTo_more (key nonce l : List UInt8) (k : Nat) (h : l.length ≤ k) : xorTo key nonce l k = xorL key nonce l := by
  unfold xorL xorTo
  apply List.map_congr_left
  intro i hi
  rw [List.mem_range] at hi
  rw [if_pos (by omega), if_pos (by omega)]
set_option maxRecDepth 100000 in
set_option maxHeartbeats 400000 in
theorem xor_bad (key nonce s : ByteArray) (w : World) (hb : ¬ (key.size = 32 ∧ nonce.size = 12)) :
    Calls Tryz.prog 123 #[.string key, .string nonce, .string s] w fun e w' => e = .returned (.tuple #[.string ByteArray.empty, .iface 56 (.int .i64 1)]) ∧ w' = w := by
  have q := fit_any key nonce w
  rw [show (decide (key.size = 32) && decide (nonce.size = 12)) = false by rw [Bool.eq_false_iff]; simpa using hb] at q
  have Q1 := hide q
  clear q
  go_enter Tryz.func123, Tryz.ntmps123
  go_wp2_with (go_at_call 152; refine Q1.out.mono ?_; rintro e w1 ⟨rfl, rfl⟩)
  go_ret2
  exact ⟨rfl, rfl⟩
set_option maxRecDepth 100000 in
set_option maxHeartbeats 1000000 in
theorem xor_ok (key nonce s : ByteArray) (w : World) (hk : key.size = 32) (hn : nonce.size = 12) (hs : s.size ≤ 100000) :
    Calls Tryz.prog 123 #[.string key, .string nonce, .string s] w fun e w' => e = .returned (.tuple #[.string ⟨(xorL key.data.toList nonce.data.toList s.data.toList).toArray⟩, .nilIface]) ∧ Below w.heap.size w w' := by
  have q := fit_any key nonce w
  rw [show (decide (key.size = 32) && decide (nonce.size = 12)) = true by simp [hk, hn]] at q
  have Q1 := hide q
  have Q2 := hide (fun m wx => block_any key nonce (BitVec.ofNat 32 (1 + m)) hk hn wx)
  have P1 := hide (fun m i h => keyAt_block key.data.toList nonce.data.toList m i h)
  have P2 := hide (fun m => blockL_len key.data.toList (BitVec.ofNat 32 (1 + m)) nonce.data.toList)
  clear q
  have ls : s.data.toList.length = s.size := rfl
  go_enter Tryz.func123, Tryz.ntmps123
  go_wp2_with (first
    | (go_at_call 152; refine Q1.out.mono ?_; rintro e wv ⟨rfl, rfl⟩)
    | ((with_reducible refine conv_in s ?_ ?_); rfl; intro cap w1 hr1 hg1 hz1))
  have hb1 : Below wv.heap.size wv w1 := (Below.refl _ wv).grown hg1 (Nat.le_refl _) (by intro k hk; simp at hk)
  clear hg1 hz1 Q1
  go_loopw [9] (fun i wr => ∃ m : Nat, 64 * m < s.size + 64 ∧ i = .int .i64 (64 * m : Nat) ∧ BR wr wv.heap.size 5 wv.heap.size s.size cap (bytesV (xorTo key.data.toList nonce.data.toList s.data.toList (64 * m))) ∧ Below wv.heap.size wv wr)
    (fun i _ => s.size + 64 - (intOf i).toNat)
  case atStart => exact ⟨0, by omega, rfl, by rw [xorTo_zero]; exact hr1, hb1⟩
  case round =>
    clear hr1 hb1
    obtain ⟨m, hm, rfl, hr, hb⟩ := hrel
    by_cases hlt : 64 * m < s.size
    · have q2 := Q2.out m
      have p1 := hide (P1.out m)
      have lO := P2.out m
      generalize blockL key.data.toList (BitVec.ofNat 32 (1 + m)) nonce.data.toList = O at q2 p1 lO
      have e1 : N (BitVec.ofNat 32 (1 + m)) = 1 + (m : Int) := by rw [N_ofNat _ (by omega)]; omega
      rw [e1] at q2
      have q2' := hide q2
      have x1 : ((64 * m : Nat) : Int) / 64 = (m : Int) := by omega
      have x2 : IntKind.u32.wrap (1 + (m : Int)) = 1 + (m : Int) := by rw [IntKind.wrap_u32']; omega
      have x3 : ((64 * m : Nat) : Int) < (s.size : Int) := by omega
      clear q2 e1
      go_upto_region 8 with (first
        | (go_at_call 153; refine (q2'.out _).mono ?_; rintro e w2 ⟨rfl, hb2⟩)
        | ((with_reducible refine store_rowB 237 w2.heap.size O 237 (rowB zb) ?_ ?_ ?_ ?_ ?_ ?_); rfl; rfl; exact HasR.new w2 237 (rowB zb); (rw [rowB_size, lO, zb_len]); (rw [lO]; kernel_rfl); rw [zerosB]; generalize hW3 : World.setCells _ _ _ _ = W3; have hO3 : HasR W3 w2.heap.size 237 (rowB O) := whole_bytes (HasR.new w2 237 (rowB zb)) hW3 (by rw [lO, rowB_size, zb_len]); have hb3 : Below w2.heap.size w2 W3 := below_setCells' ((Below.refl _ _).alloc (Nat.le_refl _) _) hW3 (Nat.le_refl _); clear hW3))
      have hr3 : BR W3 wv.heap.size 5 wv.heap.size s.size cap (bytesV (xorTo key.data.toList nonce.data.toList s.data.toList (64 * m))) := (hr.below hb2 hr.lt).below hb3 (by have := hb2.size; have := hr.lt; omega)
      have hB3 : Below wv.heap.size wv W3 := hb.trans ((hb2.mono hb.size).trans (hb3.mono (by have := hb2.size; have := hb.size; omega)))
      have hg2 : wv.heap.size < w2.heap.size := by have := hb2.size; have := hr.lt; omega
      obtain ⟨c, hc⟩ : ∃ c, c = min 64 (s.size - 64 * m) := ⟨_, rfl⟩
      clear hr hb hb2 hb3 q2'
      rw [put_none]
      go_cut [36, 37] (fun x i wx => x = .int .i64 (c : Nat) ∧ i = .int .i64 0 ∧ wx = W3)
      case first =>
        go_wp2
        all_goals (
          go_meet
          case rel => exact ⟨by first | (rw [hc]; go_num) | skip, rfl, rfl⟩)
      case rest =>
        obtain ⟨rfl, rfl, hwx⟩ := hcut
        subst hwx
        have hc1 : c ≤ 64 := by omega
        have hc2 : 64 * m + c ≤ s.size := by omega
        have hc3 := hide (show c = 64 ∨ 64 * m + c = s.size by omega)
        clear hc
        go_wp2
        go_loopw [37] (fun i wx => ∃ j : Nat, j ≤ c ∧ i = .int .i64 j ∧ BR wx wv.heap.size 5 wv.heap.size s.size cap (bytesV (xorTo key.data.toList nonce.data.toList s.data.toList (64 * m + j))) ∧ HasR wx w2.heap.size 237 (rowB O) ∧ Below wv.heap.size wv wx)
          (fun i _ => c - (intOf i).toNat)
        case atStart => exact ⟨0, by omega, rfl, hr3, hO3, hB3⟩
        case round =>
          clear hr3 hO3 hB3
          obtain ⟨j, hj, rfl, hr, hO, hb⟩ := hrel
          by_cases hj' : j < c
          · have f1 := hr.free (64 * m + j) (by omega)
            have c1 := hr.cellB (64 * m + j) (by omega)
            rw [xorTo_at _ _ _ _ _ (by omega) (Nat.le_refl _)] at c1
            have c2 := hO.cellB j (by omega)
            have i1 : (j : Int) < 64 := by omega
            have i2 : 64 * (m : Int) + (j : Int) < (s.size : Int) := by omega
            have i3 : (0 : Int) ≤ 64 * (m : Int) + (j : Int) := by omega
            have i4 : (64 * (m : Int) + (j : Int)).toNat = 64 * m + j := by omega
            have hS := xorTo_succ key.data.toList nonce.data.toList s.data.toList (64 * m + j)
            rw [p1.out j (by omega)] at hS
            have HS := hide hS
            have HR := hide hr
            have HO := hide hO
            have HB := hide hb
            clear hr hO hb hS
            generalize s.data.toList.getD (64 * m + j) 0 = x at c1 HS
            generalize O.getD j 0 = y at c2 HS
            go_wp2
            go_region
            all_goals (
              go_wp2
              rw [B_xor]
              go_roundw
              case rel => exact ⟨j + 1, by omega, by go_num, by rw [← Nat.add_assoc, ← HS.out]; exact (HR.out.setB (64 * m + j) _).drew, (HO.out.other _ (by simp; omega) _).drew, (HB.out.setCell (Nat.le_refl _) _).drew⟩
              case measure => simp [intOf]; omega)
          · obtain rfl : j = c := by omega
            have hr' : BR wr wv.heap.size 5 wv.heap.size s.size cap (bytesV (xorTo key.data.toList nonce.data.toList s.data.toList (64 * (m + 1)))) := by
              rcases hc3.out with h | h
              · rw [show 64 * (m + 1) = 64 * m + j by omega]; exact hr
              · rw [xorTo_more _ _ _ _ (by omega)]
                rw [xorTo_more _ _ _ _ (by omega)] at hr
                exact hr
            have HR := hide hr'
            have HB := hide hb
            clear hr hr' hO hb hc3
            go_wp2
            go_roundw
            case rel => exact ⟨m + 1, by omega, by go_num, HR.out, HB.out⟩
            case measure => simp [intOf]; omega
    · rw [xorTo_more _ _ _ _ (by omega)] at hr
      have x3 : ¬ ((64 * m : Nat) : Int) < (s.size : Int) := by omega
      generalize hX : xorL key.data.toList nonce.data.toList s.data.toList = X at hr
      have HX := hide hX
      clear hX Q2 P1 P2
      go_wp2_with ((with_reducible refine conv_out wv.heap.size s.size cap X ?_ hr ?_); rfl)
      go_ret2
      exact ⟨by rw [HX.out]; rfl, hb⟩
end Go.Proofs.YtkbaalenbpgheaaGreatDoor

/- Sealed texts: what the program's own tag, Seal and Open come to, for every key, nonce, with and text. -/
namespace Go.Proofs.YtkbaalenbpgheaaGreatDoor
open Go.RowKit
attribute [local go_sem ↓] Go.wp_at_zero Go.wp_at_succ
/-- A text taken together with a key's blocks; a mark; a tag. -/
def xorB (key nonce s : ByteArray) : ByteArray := ⟨(xorL key.data.toList nonce.data.toList s.data.toList).toArray⟩
def tagB (key nonce wi s : ByteArray) : ByteArray := markB 103 [key, nonce, wi, s]
theorem xorB_size (key nonce s : ByteArray) : (xorB key nonce s).size = s.size := xorTo_len _ _ _ _
theorem tagB_size (key nonce wi s : ByteArray) : (tagB key nonce wi s).size = 16 := markB_size _ _
/-- A text is its first sixteen bytes and the rest. -/
theorem head_rest (s : ByteArray) : s.extract 0 16 ++ s.extract 16 s.size = s := by
  rw [ByteArray.extract_append_extract]
  simp
theorem app_head (a b : ByteArray) (h : a.size = 16) : (a ++ b).extract 0 16 = a := by
  rw [← h]
  exact ByteArray.extract_append_eq_left rfl
theorem app_rest (a b : ByteArray) (h : a.size = 16) : (a ++ b).extract 16 (a ++ b).size = b := by
  rw [← h]
  exact ByteArray.extract_append_eq_right rfl (by simp)
/-- Four texts that lie side by side are the parts of a mark. -/
theorem parts4 {w : World} (b : Nat) (p q r s : ByteArray) (hb : b < w.heap.size) (h0 : w.cell? ⟨b, 0, none⟩ = some (.string p)) (h1 : w.cell? ⟨b, 1, none⟩ = some (.string q)) (h2 : w.cell? ⟨b, 2, none⟩ = some (.string r)) (h3 : w.cell? ⟨b, 3, none⟩ = some (.string s)) :
    Parts w (.slice (some ⟨b, 0, none⟩) 4 4) [p, q, r, s] := by
  refine ⟨_, 4, rfl, .inr ⟨b, 0, rfl, hb, fun k hk => ?_⟩⟩
  have hk' : k < 4 := hk
  match k, hk' with
  | 0, _ => exact h0
  | 1, _ => exact h1
  | 2, _ => exact h2
  | 3, _ => exact h3
theorem mark_four (b : Nat) (p q r s : ByteArray) (w : World) (hp : p.size ≤ 20000) (hq : q.size ≤ 20000) (hr : r.size ≤ 20000) (hs : s.size ≤ 20000) (hK : TabK w)
    (hb : b < w.heap.size) (h0 : w.cell? ⟨b, 0, none⟩ = some (.string p)) (h1 : w.cell? ⟨b, 1, none⟩ = some (.string q)) (h2 : w.cell? ⟨b, 2, none⟩ = some (.string r)) (h3 : w.cell? ⟨b, 3, none⟩ = some (.string s)) :
    Calls Tryz.prog 93 #[.int .u8 103, .slice (some ⟨b, 0, none⟩) 4 4] w fun e w' => e = .returned (.string (tagB p q r s)) ∧ Below w.heap.size w w' :=
  mark_any 103 _ [p, q, r, s] w (parts4 b p q r s hb h0 h1 h2 h3) (by simp) (by simp [hp, hq, hr, hs]) hK
set_option maxRecDepth 100000 in
set_option maxHeartbeats 400000 in
theorem tag_any (key nonce wi s : ByteArray) (w : World) (hk : key.size ≤ 20000) (hn : nonce.size ≤ 20000) (hw : wi.size ≤ 20000) (hs : s.size ≤ 20000) (hK : TabK w) :
    Calls Tryz.prog 122 #[.string key, .string nonce, .string wi, .string s] w fun e w' => e = .returned (.string (tagB key nonce wi s)) ∧ Below w.heap.size w w' := by
  have q := mark_four w.heap.size key nonce wi s (w.alloc (.cells #[.string key, .string nonce, .string wi, .string s] 236)) hk hn hw hs (hK.below ((Below.refl _ w).alloc (Nat.le_refl _) _) hK.lt) (by simp) (by simp) (by simp) (by simp) (by simp)
  have Q := hide q
  clear q
  go_enter Tryz.func122, Tryz.ntmps122
  go_wp2_with (go_at_call 93; (with_reducible refine Q.out.mono ?_); rintro e w1 ⟨rfl, hb1⟩)
  go_ret
  exact ⟨rfl, ((Below.refl _ w).alloc (Nat.le_refl _) _).trans (hb1.mono (by simp))⟩
set_option maxRecDepth 100000 in
set_option maxHeartbeats 400000 in
theorem seal_limit (key nonce wi s : ByteArray) (w : World) (h : 400 < s.size) :
    Calls Tryz.prog 101 #[.string key, .string nonce, .string wi, .string s] w fun e w' => e = .returned (.tuple #[.string ByteArray.empty, .iface 56 (.int .i64 4)]) ∧ w' = w := by
  have d : decide ((400 : Int) < (s.size : Int)) = true := decide_eq_true (by omega)
  go_enter Tryz.func101, Tryz.ntmps101
  go_wp2
  go_ret2
  exact ⟨rfl, rfl⟩
set_option maxRecDepth 100000 in
set_option maxHeartbeats 400000 in
theorem seal_arg (key nonce wi s : ByteArray) (w : World) (h : s.size ≤ 400) (hb : ¬ (key.size = 32 ∧ nonce.size = 12)) :
    Calls Tryz.prog 101 #[.string key, .string nonce, .string wi, .string s] w fun e w' => e = .returned (.tuple #[.string ByteArray.empty, .iface 56 (.int .i64 1)]) ∧ w' = w := by
  have d : decide ((400 : Int) < (s.size : Int)) = false := decide_eq_false (by omega)
  have Q := hide (xor_bad key nonce s w hb)
  go_enter Tryz.func101, Tryz.ntmps101
  go_wp2_with (go_at_call 123; (with_reducible refine Q.out.mono ?_); rintro e w1 ⟨rfl, rfl⟩)
  go_ret2
  exact ⟨rfl, rfl⟩
set_option maxRecDepth 100000 in
set_option maxHeartbeats 400000 in
theorem seal_ok (key nonce wi s : ByteArray) (w : World) (h : s.size ≤ 400) (hk : key.size = 32) (hn : nonce.size = 12) (hw : wi.size ≤ 20000) (hK : TabK w) :
    Calls Tryz.prog 101 #[.string key, .string nonce, .string wi, .string s] w fun e w' => e = .returned (.tuple #[.string (tagB key nonce wi (xorB key nonce s) ++ xorB key nonce s), .nilIface]) ∧ Below w.heap.size w w' := by
  have d : decide ((400 : Int) < (s.size : Int)) = false := decide_eq_false (by omega)
  have q1 : Calls Tryz.prog 123 #[.string key, .string nonce, .string s] w fun e w' => e = .returned (.tuple #[.string (xorB key nonce s), .nilIface]) ∧ Below w.heap.size w w' := xor_ok key nonce s w hk hn (by omega)
  have lx := xorB_size key nonce s
  obtain ⟨X, hX⟩ : ∃ X, X = xorB key nonce s := ⟨_, rfl⟩
  rw [← hX] at q1 lx ⊢
  have q2 := hide (fun wx hKx => tag_any key nonce wi X wx (by omega) (by omega) hw (by omega) hKx)
  have lt := tagB_size key nonce wi X
  generalize tagB key nonce wi X = T at q2 lt
  have Q1 := hide q1
  clear q1 hX
  go_enter Tryz.func101, Tryz.ntmps101
  go_wp2_with (first
    | (go_at_call 123; (with_reducible refine Q1.out.mono ?_); rintro e w1 ⟨rfl, hb1⟩; have hK1 := hK.below hb1 hK.lt)
    | (go_at_call 122; (with_reducible refine (q2.out _ hK1).mono ?_); rintro e w2 ⟨rfl, hb2⟩))
  go_ret2
  exact ⟨rfl, hb1.trans (hb2.mono hb1.size)⟩
set_option maxRecDepth 100000 in
set_option maxHeartbeats 400000 in
theorem open_arg (key nonce wi s : ByteArray) (w : World) (hb : ¬ (key.size = 32 ∧ nonce.size = 12)) :
    Calls Tryz.prog 82 #[.string key, .string nonce, .string wi, .string s] w fun e w' => e = .returned (.tuple #[.string ByteArray.empty, .iface 56 (.int .i64 1)]) ∧ w' = w := by
  by_cases h1 : key.size = 32
  · have h2 : ¬ nonce.size = 12 := fun h => hb ⟨h1, h⟩
    have d1 : ((key.size : Int) == 32) = true := by simp; omega
    have d2 : ((nonce.size : Int) == 12) = false := by simp; omega
    go_enter Tryz.func82, Tryz.ntmps82
    go_wp2
    go_ret2
    exact ⟨rfl, rfl⟩
  · have d1 : ((key.size : Int) == 32) = false := by simp; omega
    go_enter Tryz.func82, Tryz.ntmps82
    go_wp2
    go_ret2
    exact ⟨rfl, rfl⟩
set_option maxRecDepth 100000 in
set_option maxHeartbeats 400000 in
theorem open_size (key nonce wi s : ByteArray) (w : World) (hk : key.size = 32) (hn : nonce.size = 12) (hs : s.size < 16 ∨ 416 < s.size) :
    Calls Tryz.prog 82 #[.string key, .string nonce, .string wi, .string s] w fun e w' => e = .returned (.tuple #[.string ByteArray.empty, .iface 56 (.int .i64 15)]) ∧ w' = w := by
  have d1 : ((key.size : Int) == 32) = true := by simp; omega
  have d2 : ((nonce.size : Int) == 12) = true := by simp; omega
  by_cases h1 : s.size < 16
  · have d3 : decide ((s.size : Int) < 16) = true := decide_eq_true (by omega)
    go_enter Tryz.func82, Tryz.ntmps82
    go_wp2
    go_ret2
    exact ⟨rfl, rfl⟩
  · have d3 : decide ((s.size : Int) < 16) = false := decide_eq_false (by omega)
    have d4 : decide ((416 : Int) < (s.size : Int)) = true := decide_eq_true (by omega)
    go_enter Tryz.func82, Tryz.ntmps82
    go_wp2
    go_ret2
    exact ⟨rfl, rfl⟩
set_option maxRecDepth 100000 in
set_option maxHeartbeats 400000 in
theorem open_tag (key nonce wi s : ByteArray) (w : World) (hk : key.size = 32) (hn : nonce.size = 12) (hw : wi.size ≤ 20000) (h0 : 16 ≤ s.size) (h1 : s.size ≤ 416) (hK : TabK w) (ht : s.extract 0 16 ≠ tagB key nonce wi (s.extract 16 s.size)) :
    Calls Tryz.prog 82 #[.string key, .string nonce, .string wi, .string s] w fun e w' => e = .returned (.tuple #[.string ByteArray.empty, .iface 56 (.int .i64 15)]) ∧ Below w.heap.size w w' := by
  have d1 : ((key.size : Int) == 32) = true := by simp; omega
  have d2 : ((nonce.size : Int) == 12) = true := by simp; omega
  have d3 : decide ((s.size : Int) < 16) = false := decide_eq_false (by omega)
  have d4 : decide ((416 : Int) < (s.size : Int)) = false := decide_eq_false (by omega)
  have q2 := hide (fun wx hKx => tag_any key nonce wi (s.extract 16 s.size) wx (by omega) (by omega) hw (by rw [ByteArray.size_extract]; omega) hKx)
  generalize tagB key nonce wi (s.extract 16 s.size) = T at q2 ht
  have d5 := lists_ne ht
  have hKd : TabK w.drew := hK.below (Below.refl _ w).drew hK.lt
  go_enter Tryz.func82, Tryz.ntmps82
  go_wp2
  go_region
  all_goals (
    go_wp2_with (go_at_call 122; (with_reducible refine (q2.out _ hKd).mono ?_); rintro e w2 ⟨rfl, hb2⟩)
    go_ret2
    exact ⟨rfl, (Below.refl _ w).drew.trans hb2⟩)
set_option maxRecDepth 100000 in
set_option maxHeartbeats 400000 in
theorem open_ok (key nonce wi s : ByteArray) (w : World) (hk : key.size = 32) (hn : nonce.size = 12) (hw : wi.size ≤ 20000) (h0 : 16 ≤ s.size) (h1 : s.size ≤ 416) (hK : TabK w) (ht : s.extract 0 16 = tagB key nonce wi (s.extract 16 s.size)) :
    Calls Tryz.prog 82 #[.string key, .string nonce, .string wi, .string s] w fun e w' => e = .returned (.tuple #[.string (xorB key nonce (s.extract 16 s.size)), .nilIface]) ∧ Below w.heap.size w w' := by
  have d1 : ((key.size : Int) == 32) = true := by simp; omega
  have d2 : ((nonce.size : Int) == 12) = true := by simp; omega
  have d3 : decide ((s.size : Int) < 16) = false := decide_eq_false (by omega)
  have d4 : decide ((416 : Int) < (s.size : Int)) = false := decide_eq_false (by omega)
  have hKd : TabK w.drew := hK.below (Below.refl _ w).drew hK.lt
  have q2 := hide (fun wx hKx => tag_any key nonce wi (s.extract 16 s.size) wx (by omega) (by omega) hw (by rw [ByteArray.size_extract]; omega) hKx)
  rw [← ht] at q2
  have q1 : ∀ wx, Calls Tryz.prog 123 #[.string key, .string nonce, .string (s.extract 16 s.size)] wx fun e w' => e = .returned (.tuple #[.string (xorB key nonce (s.extract 16 s.size)), .nilIface]) ∧ Below wx.heap.size wx w' := fun wx => xor_ok key nonce (s.extract 16 s.size) wx hk hn (by rw [ByteArray.size_extract]; omega)
  generalize xorB key nonce (s.extract 16 s.size) = X at q1
  have Q1 := hide q1
  clear q1 ht
  go_enter Tryz.func82, Tryz.ntmps82
  go_wp2
  go_region
  all_goals (
    go_wp2_with (first
      | (go_at_call 122; (with_reducible refine (q2.out _ hKd).mono ?_); rintro e w2 ⟨rfl, hb2⟩)
      | (go_at_call 123; (with_reducible refine (Q1.out _).mono ?_); rintro e w3 ⟨rfl, hb3⟩))
    go_ret2
    exact ⟨rfl, (Below.refl _ w).drew.trans (hb2.trans (hb3.mono hb2.size))⟩)
end Go.Proofs.YtkbaalenbpgheaaGreatDoor

/- Records as mathematics, and the program's mark of one, its nonce, and what is bound to it. -/
namespace Go.Proofs.YtkbaalenbpgheaaGreatDoor
open Go.RowKit
attribute [local go_sem ↓] Go.wp_at_zero Go.wp_at_succ
/-- A record: its number, whose it is, by which key, the mark ahead, the body. -/
structure Rec where
  q : Nat
  s : ByteArray
  g : Nat
  p : ByteArray
  d : ByteArray
def recL (r : Rec) : List Value := [.int .i64 (r.q : Int), .string r.s, .int .i64 (r.g : Int), .string r.p, .string r.d]
def recA (r : Rec) : Array Value := #[.int .i64 (r.q : Int), .string r.s, .int .i64 (r.g : Int), .string r.p, .string r.d]
def markR (r : Rec) : ByteArray := markB 114 [num3 r.q, r.s, num3 r.g, r.p, r.d]
def withR (r : Rec) : ByteArray := markB 97 [num3 r.q, r.s, num3 r.g, r.p]
def feedB : ByteArray := ⟨#[102, 101, 101, 100]⟩
def nonceR (r : Rec) : ByteArray := num3 r.q ++ feedB
def noneB : ByteArray := ⟨#[0, 0, 0, 0, 0, 0, 0, 0, 0, 0, 0, 0, 0, 0, 0, 0]⟩
theorem markR_size (r : Rec) : (markR r).size = 16 := markB_size _ _
theorem withR_size (r : Rec) : (withR r).size = 16 := markB_size _ _
theorem nonceR_size (r : Rec) : (nonceR r).size = 12 := by
  unfold nonceR
  rw [ByteArray.size_append, num3_size]
  rfl
theorem noneB_size : noneB.size = 16 := rfl
/-- A record that is short. -/
structure Fit (r : Rec) : Prop where
  q : r.q < 1000000
  g : r.g < 1000000
  s : r.s.size ≤ 60
  p : r.p.size ≤ 60
  d : r.d.size ≤ 1000
theorem parts5 {w : World} (b : Nat) (p q r s t : ByteArray) (h : HasR w b 9 #[.string p, .string q, .string r, .string s, .string t]) :
    Parts w (.slice (some ⟨b, 0, none⟩) 5 5) [p, q, r, s, t] := by
  refine ⟨_, 5, rfl, .inr ⟨b, 0, rfl, h.lt, fun k hk => ?_⟩⟩
  have hk' : k < 5 := hk
  match k, hk' with
  | 0, _ => exact h.cell 0
  | 1, _ => exact h.cell 1
  | 2, _ => exact h.cell 2
  | 3, _ => exact h.cell 3
  | 4, _ => exact h.cell 4
theorem mark_rec (q s g p d : ByteArray) (w : World) (hq : q.size ≤ 20000) (hs : s.size ≤ 20000) (hg : g.size ≤ 20000) (hp : p.size ≤ 20000) (hd : d.size ≤ 20000) (hK : TabK w) :
    Calls Tryz.prog 93 #[.int .u8 114, .slice (some ⟨w.heap.size, 0, none⟩) 5 5] (w.alloc (.cells #[.string q, .string s, .string g, .string p, .string d] 9)) fun e w' => e = .returned (.string (markB 114 [q, s, g, p, d])) ∧ Below w.heap.size w w' :=
  have b1 : Below w.heap.size w (w.alloc (.cells #[.string q, .string s, .string g, .string p, .string d] 9)) := (Below.refl _ w).alloc (Nat.le_refl _) _
  (mark_any 114 _ [q, s, g, p, d] _ (parts5 w.heap.size q s g p d (HasR.new w 9 _)) (by simp) (by simp [hq, hs, hg, hp, hd]) (hK.below b1 hK.lt)).mono fun _ _ ⟨he, hb⟩ => ⟨he, b1.trans (hb.mono b1.size)⟩
theorem mark_with (q s g p : ByteArray) (w : World) (hq : q.size ≤ 20000) (hs : s.size ≤ 20000) (hg : g.size ≤ 20000) (hp : p.size ≤ 20000) (hK : TabK w) :
    Calls Tryz.prog 93 #[.int .u8 97, .slice (some ⟨w.heap.size, 0, none⟩) 4 4] (w.alloc (.cells #[.string q, .string s, .string g, .string p] 9)) fun e w' => e = .returned (.string (markB 97 [q, s, g, p])) ∧ Below w.heap.size w w' :=
  have b1 : Below w.heap.size w (w.alloc (.cells #[.string q, .string s, .string g, .string p] 9)) := (Below.refl _ w).alloc (Nat.le_refl _) _
  have h := HasR.new w 9 #[.string q, .string s, .string g, .string p]
  (mark_any 97 _ [q, s, g, p] _ (parts4 w.heap.size q s g p h.lt (h.cell 0) (h.cell 1) (h.cell 2) (h.cell 3)) (by simp) (by simp [hq, hs, hg, hp]) (hK.below b1 hK.lt)).mono fun _ _ ⟨he, hb⟩ => ⟨he, b1.trans (hb.mono b1.size)⟩
/-- What a walk sees of the record's own box. -/
theorem rec_cells {w : World} {B : Nat} {r : Rec} (h : HasR w B 30 (recA r)) : w.cell? ⟨B, 0, none⟩ = some (.int .i64 (r.q : Int)) ∧ w.cell? ⟨B, 1, none⟩ = some (.string r.s) ∧ w.cell? ⟨B, 2, none⟩ = some (.int .i64 (r.g : Int)) ∧ w.cell? ⟨B, 3, none⟩ = some (.string r.p) ∧ w.cell? ⟨B, 4, none⟩ = some (.string r.d) :=
  ⟨h.cell 0, h.cell 1, h.cell 2, h.cell 3, h.cell 4⟩
set_option maxRecDepth 100000 in
set_option maxHeartbeats 1000000 in
theorem nonce_any (r : Rec) (w : World) (hf : Fit r) : Calls Tryz.prog 83 #[.agg #[.int .i64 (r.q : Int), .string r.s, .int .i64 (r.g : Int), .string r.p, .string r.d]] w fun e w' => e = .returned (.string (nonceR r)) ∧ Below w.heap.size w w' := by
  have bel : Below w.heap.size w (w.alloc (.cells #[.int .i64 (r.q : Int), .string r.s, .int .i64 (r.g : Int), .string r.p, .string r.d] 30)) := (Below.refl _ w).alloc (Nat.le_refl _) _
  have Q := hide (num_n r.q hf.q (w.alloc (.cells #[.int .i64 (r.q : Int), .string r.s, .int .i64 (r.g : Int), .string r.p, .string r.d] 30)))
  go_enter Tryz.func83, Tryz.ntmps83
  go_wp2_with (go_at_call 94; (with_reducible refine Q.out.mono ?_); rintro e w1 ⟨rfl, hb1⟩; have B1 := hide (bel.trans (hb1.mono bel.size)); clear hb1)
  go_ret
  exact ⟨rfl, B1.out⟩
set_option maxRecDepth 100000 in
set_option maxHeartbeats 1000000 in
theorem with_any (r : Rec) (w : World) (hf : Fit r) (hK : TabK w) : Calls Tryz.prog 84 #[.agg #[.int .i64 (r.q : Int), .string r.s, .int .i64 (r.g : Int), .string r.p, .string r.d]] w fun e w' => e = .returned (.string (withR r)) ∧ Below w.heap.size w w' := by
  have bel : Below w.heap.size w (w.alloc (.cells #[.int .i64 (r.q : Int), .string r.s, .int .i64 (r.g : Int), .string r.p, .string r.d] 30)) := (Below.refl _ w).alloc (Nat.le_refl _) _
  have E0 := hide (HasR.new w 30 (recA r))
  have Q := hide (fun wx => num_n r.q hf.q wx)
  have G := hide (fun wx => num_n r.g hf.g wx)
  have M := hide (fun wx hKx => mark_with (num3 r.q) r.s (num3 r.g) r.p wx (by rw [num3_size]; omega) (Nat.le_trans hf.s (by omega)) (by rw [num3_size]; omega) (Nat.le_trans hf.p (by omega)) hKx)
  have KD := hide (hK.below bel.drew hK.lt)
  have BD := hide bel.drew
  clear hK hf bel
  go_enter Tryz.func84, Tryz.ntmps84
  go_wp2
  go_region_held3 (fun wx => wx.cell? ⟨w.heap.size, 0, none⟩ = some (.int .i64 (r.q : Int)) ∧ wx.cell? ⟨w.heap.size, 1, none⟩ = some (.string r.s) ∧ wx.cell? ⟨w.heap.size, 2, none⟩ = some (.int .i64 (r.g : Int)) ∧ wx.cell? ⟨w.heap.size, 3, none⟩ = some (.string r.p)) (first | (with_reducible exact C3.out) | (with_reducible exact C2.out) | (with_reducible exact C1.out) | go_keep)
    (first
    | (go_at_call 94; (with_reducible refine (Q.out _).mono ?_); rintro e w1 ⟨rfl, hb1⟩; have B1 := hide (BD.out.trans (hb1.mono BD.out.size)); have K1 := hide (KD.out.below hb1 KD.out.lt); have E1 := hide ((E0.out.drew).below hb1 E0.out.drew.lt); have C1 := hide ((rec_cells E1.out).imp id (fun h => h.imp id (fun h => h.imp id (fun h => h.1)))); clear hb1)
    | (go_at_call 94; (with_reducible refine (G.out _).mono ?_); rintro e w2 ⟨rfl, hb2⟩; have B2 := hide (B1.out.trans (hb2.mono B1.out.size)); have K2 := hide (K1.out.below hb2 K1.out.lt); have E2 := hide (E1.out.below hb2 E1.out.lt); have C2 := hide ((rec_cells E2.out).imp id (fun h => h.imp id (fun h => h.imp id (fun h => h.1)))); clear hb2)
    | (go_at_call 93; (with_reducible refine (M.out _ K2.out).mono ?_); rintro e w3 ⟨rfl, hb3⟩; have B3 := hide (B2.out.trans (hb3.mono B2.out.size)); have C3 := hide ((rec_cells (E2.out.below hb3 E2.out.lt)).imp id (fun h => h.imp id (fun h => h.imp id (fun h => h.1)))); clear hb3))
  go_wp2
  go_ret
  exact ⟨rfl, B3.out⟩
set_option maxRecDepth 100000 in
set_option maxHeartbeats 1000000 in
theorem markRec_any (r : Rec) (w : World) (hf : Fit r) (hK : TabK w) : Calls Tryz.prog 65 #[.agg #[.int .i64 (r.q : Int), .string r.s, .int .i64 (r.g : Int), .string r.p, .string r.d]] w fun e w' => e = .returned (.string (markR r)) ∧ Below w.heap.size w w' := by
  have bel : Below w.heap.size w (w.alloc (.cells #[.int .i64 (r.q : Int), .string r.s, .int .i64 (r.g : Int), .string r.p, .string r.d] 30)) := (Below.refl _ w).alloc (Nat.le_refl _) _
  have E0 := hide (HasR.new w 30 (recA r))
  have Q := hide (fun wx => num_n r.q hf.q wx)
  have G := hide (fun wx => num_n r.g hf.g wx)
  have M := hide (fun wx hKx => mark_rec (num3 r.q) r.s (num3 r.g) r.p r.d wx (by rw [num3_size]; omega) (Nat.le_trans hf.s (by omega)) (by rw [num3_size]; omega) (Nat.le_trans hf.p (by omega)) (Nat.le_trans hf.d (by omega)) hKx)
  have KD := hide (hK.below bel.drew hK.lt)
  have BD := hide bel.drew
  clear hK hf bel
  go_enter Tryz.func65, Tryz.ntmps65
  go_wp2
  go_region_held3 (fun wx => wx.cell? ⟨w.heap.size, 0, none⟩ = some (.int .i64 (r.q : Int)) ∧ wx.cell? ⟨w.heap.size, 1, none⟩ = some (.string r.s) ∧ wx.cell? ⟨w.heap.size, 2, none⟩ = some (.int .i64 (r.g : Int)) ∧ wx.cell? ⟨w.heap.size, 3, none⟩ = some (.string r.p) ∧ wx.cell? ⟨w.heap.size, 4, none⟩ = some (.string r.d)) (first | (with_reducible exact C3.out) | (with_reducible exact C2.out) | (with_reducible exact C1.out) | go_keep)
    (first
    | (go_at_call 94; (with_reducible refine (Q.out _).mono ?_); rintro e w1 ⟨rfl, hb1⟩; have B1 := hide (BD.out.trans (hb1.mono BD.out.size)); have K1 := hide (KD.out.below hb1 KD.out.lt); have E1 := hide ((E0.out.drew).below hb1 E0.out.drew.lt); have C1 := hide (rec_cells E1.out); clear hb1)
    | (go_at_call 94; (with_reducible refine (G.out _).mono ?_); rintro e w2 ⟨rfl, hb2⟩; have B2 := hide (B1.out.trans (hb2.mono B1.out.size)); have K2 := hide (K1.out.below hb2 K1.out.lt); have E2 := hide (E1.out.below hb2 E1.out.lt); have C2 := hide (rec_cells E2.out); clear hb2)
    | (go_at_call 93; (with_reducible refine (M.out _ K2.out).mono ?_); rintro e w3 ⟨rfl, hb3⟩; have B3 := hide (B2.out.trans (hb3.mono B2.out.size)); have C3 := hide ((rec_cells (E2.out.below hb3 E2.out.lt))); clear hb3))
  go_wp2
  go_ret
  exact ⟨rfl, B3.out⟩
end Go.Proofs.YtkbaalenbpgheaaGreatDoor
