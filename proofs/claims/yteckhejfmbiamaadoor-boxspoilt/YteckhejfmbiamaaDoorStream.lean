/- Blocks and texts: what the program's own Block and Xor come to, for every key, number, nonce and text. -/
import Derived.Test.YteckhejfmbiamaaDoorBlock
namespace Go.Proofs.YteckhejfmbiamaaDoor
open Go.RowKit
attribute [local go_sem] size_setCells
attribute [local go_sem ↓] Go.wp_at_zero Go.wp_at_succ
set_option maxRecDepth 100000 in
theorem fit_any (key nonce : ByteArray) (w : World) :
    Calls Tryd.prog 42 #[.string key, .string nonce] w fun e w' => e = .returned (.bool (decide (key.size = 32) && decide (nonce.size = 12))) ∧ w' = w := by
  by_cases h1 : key.size = 32
  · by_cases h2 : nonce.size = 12
    · have d1 : decide ((key.size : Int) = 32) = true := by simp; omega
      have d2 : decide ((nonce.size : Int) = 12) = true := by simp; omega
      go_enter Tryd.func42, Tryd.ntmps42
      go_wp2
      go_ret
      exact ⟨ret_val (by simp [h1, h2]), rfl⟩
    · have d1 : decide ((key.size : Int) = 32) = true := by simp; omega
      have d2 : decide ((nonce.size : Int) = 12) = false := by simp; omega
      go_enter Tryd.func42, Tryd.ntmps42
      go_wp2
      go_ret
      exact ⟨ret_val (by simp [h1, h2]; omega), rfl⟩
  · have d1 : decide ((key.size : Int) = 32) = false := by simp; omega
    go_enter Tryd.func42, Tryd.ntmps42
    go_wp2
    go_ret
    exact ⟨ret_val (by simp [h1]), rfl⟩
/-- Bytes turned into a text, whatever the block is called. -/
theorem conv_out' {ops : Array Oper} {rest : List Oper} {a : Act} {w : World} {Q : Exit → Act → World → Prop} {tt : TypeId} {pos : String} {af : Array Edge} {x : Operand} {d : Tmp} {base : Nat} {e : TypeId} (g n cap : Nat) (l : List UInt8) (hx : a.eval x = .slice (some ⟨g, 0, none⟩) n cap)
    (hr : BR w base e g n cap (bytesV l)) (h : wpList Tryd.prog ops Q rest (a.put (some d) (.string ⟨l.toArray⟩)) w) :
    wpList Tryd.prog ops Q (⟨some d, .convert 61 9 x, tt, pos, af, none⟩ :: rest) a w := by
  refine wpList_plain rfl fun K hK => ?_
  have hl : n = l.length := by rw [← hr.len, bytesV_len]
  subst hl
  have hrun := run_convert_bytes_back (P := Tryd.prog) w 61 9 5 ⟨g, 0, none⟩ cap l Tryd.underlying61 Tryd.underlying5 Tryd.underlying9 (fun j hj => by
    have hadd : (⟨g, 0, none⟩ : Addr).add j = ⟨g, j, none⟩ := by unfold Addr.add; split <;> simp_all
    rw [hadd, hr.cell j hj]
    simp [bytesV, hj])
  unfold Oper.wp execOp
  simp only [hx, Sem.run_bind, hrun, Result.andThen_ok, Sem.run_pure]
  exact hK _ _ h
theorem BR.of_row {w : World} {B : Nat} {t : TypeId} {l : List UInt8} (h : HasR w B t (rowB l)) (hl : l.length = 64) : BR w 0 t B 64 64 (bytesV l) :=
  ⟨by rw [bytesV_len, hl], Nat.zero_le _, Nat.le_refl _, rowB l, (0, 0), h, by rw [rowB_size, hl], by
    show (bytesV l).take 64 = _
    rw [List.take_of_length_le (by rw [bytesV_len]; omega)], .inl (Nat.le_refl _)⟩
set_option maxRecDepth 100000 in
set_option maxHeartbeats 400000 in
theorem block_bad (key nonce : ByteArray) (n : Int) (w : World) (h0 : -9223372036854775808 ≤ n) (h1 : n < 9223372036854775808) (hb : ¬ (key.size = 32 ∧ nonce.size = 12 ∧ 0 ≤ n ∧ n < 4294967296)) :
    Calls Tryd.prog 19 #[.string key, .int .i64 n, .string nonce] w fun e w' => e = .returned (.tuple #[.string ByteArray.empty, .iface 30 (.int .i64 1)]) ∧ w' = w := by
  have q := fit_any key nonce w
  by_cases h2 : (decide (key.size = 32) && decide (nonce.size = 12)) = true
  · rw [h2] at q
    simp at h2
    have h3 : ¬ (0 ≤ n ∧ n < 4294967296) := by intro h; exact hb ⟨h2.1, h2.2, h⟩
    have d1 : decide ((4294967295 : Int) < IntKind.u64.wrap n) = true := by rw [IntKind.wrap_u64]; simp; omega
    have Q1 := hide q
    clear q
    go_enter Tryd.func19, Tryd.ntmps19
    go_wp2_with (go_at_call 42; refine Q1.out.mono ?_; rintro e w1 ⟨rfl, rfl⟩)
    go_ret2
    exact ⟨rfl, rfl⟩
  · rw [Bool.not_eq_true] at h2
    rw [h2] at q
    have Q1 := hide q
    clear q
    go_enter Tryd.func19, Tryd.ntmps19
    go_wp2_with (go_at_call 42; refine Q1.out.mono ?_; rintro e w1 ⟨rfl, rfl⟩)
    go_ret2
    exact ⟨rfl, rfl⟩
set_option maxRecDepth 100000 in
set_option maxHeartbeats 400000 in
theorem block_ok (key nonce : ByteArray) (n : Nat) (w : World) (hk : key.size = 32) (hn : nonce.size = 12) (h1 : n < 4294967296) :
    Calls Tryd.prog 19 #[.string key, .int .i64 n, .string nonce] w fun e w' => e = .returned (.tuple #[.string ⟨(blockL key.data.toList (BitVec.ofNat 32 n) nonce.data.toList).toArray⟩, .nilIface]) ∧ Below w.heap.size w w' := by
  have q := fit_any key nonce w
  rw [show (decide (key.size = 32) && decide (nonce.size = 12)) = true by simp [hk, hn]] at q
  have q2 := block_any key nonce (BitVec.ofNat 32 n) hk hn w
  rw [N_ofNat n h1] at q2
  have lO := blockL_len key.data.toList (BitVec.ofNat 32 n) nonce.data.toList
  generalize blockL key.data.toList (BitVec.ofNat 32 n) nonce.data.toList = O at q2 lO ⊢
  have d1 : decide ((4294967295 : Int) < IntKind.u64.wrap n) = false := by rw [IntKind.wrap_u64]; simp; omega
  have d2 : IntKind.u32.wrap (n : Int) = (n : Int) := by rw [IntKind.wrap_u32']; omega
  have Q1 := hide q
  have Q2 := hide q2
  clear q q2
  go_enter Tryd.func19, Tryd.ntmps19
  go_wp2_with (first
    | (go_at_call 42; refine Q1.out.mono ?_; rintro e w1 ⟨rfl, rfl⟩)
    | (go_at_call 43; refine Q2.out.mono ?_; rintro e w2 ⟨rfl, hb2⟩)
    | ((with_reducible refine store_rowB 72 w2.heap.size O 72 (rowB zb) ?_ ?_ ?_ ?_ ?_ ?_); rfl; rfl; exact HasR.new w2 72 (rowB zb); (rw [rowB_size, lO, zb_len]); (rw [lO]; kernel_rfl); rw [zerosB]; generalize hW3 : World.setCells _ _ _ _ = W3; have hO3 : HasR W3 w2.heap.size 72 (rowB O) := whole_bytes (HasR.new w2 72 (rowB zb)) hW3 (by rw [lO, rowB_size, zb_len]); have hb3 : Below w2.heap.size w2 W3 := below_setCells' ((Below.refl _ _).alloc (Nat.le_refl _) _) hW3 (Nat.le_refl _); have hr3 := BR.of_row hO3 lO; clear hW3)
    | ((with_reducible refine conv_out' w2.heap.size 64 64 O ?_ hr3 ?_); rfl))
  go_ret2
  exact ⟨rfl, hb2.trans (hb3.mono hb2.size)⟩
theorem put_none (a : Act) (v : Value) : a.put none v = a := rfl
theorem B_xor (x y : UInt8) : bits .xor .u8 (x.toNat : Int) (y.toNat : Int) = ((x ^^^ y).toNat : Int) := by
  rw [u8_xor_nat _ _ x.toNat_lt y.toNat_lt, UInt8.toNat_xor]
theorem BR.free {w : World} {base : Nat} {e : TypeId} {g n cap : Nat} {xs : List Value} (h : BR w base e g n cap xs) (j : Nat) (hj : j < n) : w.frozen? ⟨g, j, none⟩ = false := by
  obtain ⟨cur, fr, hg, hs, ht, hf⟩ := h.blk
  have hle := h.le
  unfold World.frozen?
  simp only [hg]
  rcases hf with h5 | h5
  · simp; omega
  · simp; omega
theorem BR.cellB {w : World} {base : Nat} {e : TypeId} {g n cap : Nat} {l : List UInt8} (h : BR w base e g n cap (bytesV l)) (j : Nat) (hj : j < n) : w.cell? ⟨g, j, none⟩ = some (.int .u8 ((l.getD j 0).toNat : Int)) := by
  have hl := h.len
  rw [bytesV_len] at hl
  rw [h.cell j hj]
  simp [bytesV, hl, hj]
theorem BR.setB {w : World} {base : Nat} {e : TypeId} {g n cap : Nat} {l : List UInt8} (h : BR w base e g n cap (bytesV l)) (j : Nat) (x : UInt8) : BR (w.setCell ⟨g, j, none⟩ (.int .u8 (x.toNat : Int))) base e g n cap (bytesV (l.set j x)) := by
  obtain ⟨cur, fr, hg, hs, ht, hf⟩ := h.blk
  have hle := h.le
  have hl := h.len
  refine ⟨by rw [bytesV_len, List.length_set, ← bytesV_len]; exact hl, h.base, h.le, cur.setIfInBounds j (.int .u8 (x.toNat : Int)), fr, ?_, by simpa using hs, ?_, hf⟩
  · simp [World.setCell, Array.getElem?_modify, hg]
  · rw [Array.toList_setIfInBounds, List.take_set, ht]
    simp [bytesV, List.map_set]
theorem keyAt_block (key nonce : List UInt8) (m i : Nat) (h : i < 64) : keyAt key nonce (64 * m + i) = (blockL key (BitVec.ofNat 32 (1 + m)) nonce).getD i 0 := by
  unfold keyAt
  have e1 : (64 * m + i) / 64 = m := by omega
  have e2 : (64 * m + i) % 64 = i := by omega
  rw [e1, e2]
theorem xorTo_more (key nonce l : List UInt8) (k : Nat) (h : l.length ≤ k) : xorTo key nonce l k = xorL key nonce l := by
  unfold xorL xorTo
  apply List.map_congr_left
  intro i hi
  rw [List.mem_range] at hi
  rw [if_pos (by omega), if_pos (by omega)]
set_option maxRecDepth 100000 in
set_option maxHeartbeats 400000 in
theorem xor_bad (key nonce s : ByteArray) (w : World) (hb : ¬ (key.size = 32 ∧ nonce.size = 12)) :
    Calls Tryd.prog 22 #[.string key, .string nonce, .string s] w fun e w' => e = .returned (.tuple #[.string ByteArray.empty, .iface 30 (.int .i64 1)]) ∧ w' = w := by
  have q := fit_any key nonce w
  rw [show (decide (key.size = 32) && decide (nonce.size = 12)) = false by rw [Bool.eq_false_iff]; simpa using hb] at q
  have Q1 := hide q
  clear q
  go_enter Tryd.func22, Tryd.ntmps22
  go_wp2_with (go_at_call 42; refine Q1.out.mono ?_; rintro e w1 ⟨rfl, rfl⟩)
  go_ret2
  exact ⟨rfl, rfl⟩
set_option maxRecDepth 100000 in
set_option maxHeartbeats 1000000 in
theorem xor_ok (key nonce s : ByteArray) (w : World) (hk : key.size = 32) (hn : nonce.size = 12) (hs : s.size ≤ 100000) :
    Calls Tryd.prog 22 #[.string key, .string nonce, .string s] w fun e w' => e = .returned (.tuple #[.string ⟨(xorL key.data.toList nonce.data.toList s.data.toList).toArray⟩, .nilIface]) ∧ Below w.heap.size w w' := by
  have q := fit_any key nonce w
  rw [show (decide (key.size = 32) && decide (nonce.size = 12)) = true by simp [hk, hn]] at q
  have Q1 := hide q
  have Q2 := hide (fun m wx => block_any key nonce (BitVec.ofNat 32 (1 + m)) hk hn wx)
  have P1 := hide (fun m i h => keyAt_block key.data.toList nonce.data.toList m i h)
  have P2 := hide (fun m => blockL_len key.data.toList (BitVec.ofNat 32 (1 + m)) nonce.data.toList)
  clear q
  have ls : s.data.toList.length = s.size := rfl
  go_enter Tryd.func22, Tryd.ntmps22
  go_wp2_with (first
    | (go_at_call 42; refine Q1.out.mono ?_; rintro e wv ⟨rfl, rfl⟩)
    | ((with_reducible refine conv_in s ?_ ?_); rfl; intro cap w1 hr1 hg1 hz1))
  have hb1 : Below wv.heap.size wv w1 := (Below.refl _ wv).grown hg1 (Nat.le_refl _) (by intro k hk; simp at hk)
  clear hg1 hz1 Q1
  go_loopw [9] (fun i wr => ∃ m : Nat, 64 * m < s.size + 64 ∧ i = .int .i64 (64 * m : Nat) ∧ BR wr wv.heap.size 5 wv.heap.size s.size cap (bytesV (xorTo key.data.toList nonce.data.toList s.data.toList (64 * m))) ∧ Below wv.heap.size wv wr)
    (fun i _ => s.size + 64 - (intOf i).toNat)
  case atStart => exact ⟨0, by omega, rfl, by rw [xorTo_zero]; exact hr1, hb1⟩
  case round =>
    clear hr1 hb1
    obtain ⟨m, hm, rfl, hr, hb⟩ := hrel
    by_cases hlt : 64 * m < s.size
    · have q2 := Q2.out m
      have p1 := hide (P1.out m)
      have lO := P2.out m
      generalize blockL key.data.toList (BitVec.ofNat 32 (1 + m)) nonce.data.toList = O at q2 p1 lO
      have e1 : N (BitVec.ofNat 32 (1 + m)) = 1 + (m : Int) := by rw [N_ofNat _ (by omega)]; omega
      rw [e1] at q2
      have q2' := hide q2
      have x1 : ((64 * m : Nat) : Int) / 64 = (m : Int) := by omega
      have x2 : IntKind.u32.wrap (1 + (m : Int)) = 1 + (m : Int) := by rw [IntKind.wrap_u32']; omega
      have x3 : ((64 * m : Nat) : Int) < (s.size : Int) := by omega
      clear q2 e1
      go_upto_region 8 with (first
        | (go_at_call 43; refine (q2'.out _).mono ?_; rintro e w2 ⟨rfl, hb2⟩)
        | ((with_reducible refine store_rowB 72 w2.heap.size O 72 (rowB zb) ?_ ?_ ?_ ?_ ?_ ?_); rfl; rfl; exact HasR.new w2 72 (rowB zb); (rw [rowB_size, lO, zb_len]); (rw [lO]; kernel_rfl); rw [zerosB]; generalize hW3 : World.setCells _ _ _ _ = W3; have hO3 : HasR W3 w2.heap.size 72 (rowB O) := whole_bytes (HasR.new w2 72 (rowB zb)) hW3 (by rw [lO, rowB_size, zb_len]); have hb3 : Below w2.heap.size w2 W3 := below_setCells' ((Below.refl _ _).alloc (Nat.le_refl _) _) hW3 (Nat.le_refl _); clear hW3))
      have hr3 : BR W3 wv.heap.size 5 wv.heap.size s.size cap (bytesV (xorTo key.data.toList nonce.data.toList s.data.toList (64 * m))) := (hr.below hb2 hr.lt).below hb3 (by have := hb2.size; have := hr.lt; omega)
      have hB3 : Below wv.heap.size wv W3 := hb.trans ((hb2.mono hb.size).trans (hb3.mono (by have := hb2.size; have := hb.size; omega)))
      have hg2 : wv.heap.size < w2.heap.size := by have := hb2.size; have := hr.lt; omega
      obtain ⟨c, hc⟩ : ∃ c, c = min 64 (s.size - 64 * m) := ⟨_, rfl⟩
      clear hr hb hb2 hb3 q2'
      rw [put_none]
      go_cut [36, 37] (fun x i wx => x = .int .i64 (c : Nat) ∧ i = .int .i64 0 ∧ wx = W3)
      case first =>
        go_wp2
        all_goals (
          go_meet
          case rel => exact ⟨by first | (rw [hc]; go_num) | skip, rfl, rfl⟩)
      case rest =>
        obtain ⟨rfl, rfl, hwx⟩ := hcut
        subst hwx
        have hc1 : c ≤ 64 := by omega
        have hc2 : 64 * m + c ≤ s.size := by omega
        have hc3 := hide (show c = 64 ∨ 64 * m + c = s.size by omega)
        clear hc
        go_wp2
        go_loopw [37] (fun i wx => ∃ j : Nat, j ≤ c ∧ i = .int .i64 j ∧ BR wx wv.heap.size 5 wv.heap.size s.size cap (bytesV (xorTo key.data.toList nonce.data.toList s.data.toList (64 * m + j))) ∧ HasR wx w2.heap.size 72 (rowB O) ∧ Below wv.heap.size wv wx)
          (fun i _ => c - (intOf i).toNat)
        case atStart => exact ⟨0, by omega, rfl, hr3, hO3, hB3⟩
        case round =>
          clear hr3 hO3 hB3
          obtain ⟨j, hj, rfl, hr, hO, hb⟩ := hrel
          by_cases hj' : j < c
          · have f1 := hr.free (64 * m + j) (by omega)
            have c1 := hr.cellB (64 * m + j) (by omega)
            rw [xorTo_at _ _ _ _ _ (by omega) (Nat.le_refl _)] at c1
            have c2 := hO.cellB j (by omega)
            have i1 : (j : Int) < 64 := by omega
            have i2 : 64 * (m : Int) + (j : Int) < (s.size : Int) := by omega
            have i3 : (0 : Int) ≤ 64 * (m : Int) + (j : Int) := by omega
            have i4 : (64 * (m : Int) + (j : Int)).toNat = 64 * m + j := by omega
            have hS := xorTo_succ key.data.toList nonce.data.toList s.data.toList (64 * m + j)
            rw [p1.out j (by omega)] at hS
            have HS := hide hS
            have HR := hide hr
            have HO := hide hO
            have HB := hide hb
            clear hr hO hb hS
            generalize s.data.toList.getD (64 * m + j) 0 = x at c1 HS
            generalize O.getD j 0 = y at c2 HS
            go_wp2
            go_region
            all_goals (
              go_wp2
              rw [B_xor]
              go_roundw
              case rel => exact ⟨j + 1, by omega, by go_num, by rw [← Nat.add_assoc, ← HS.out]; exact (HR.out.setB (64 * m + j) _).drew, (HO.out.other _ (by simp; omega) _).drew, (HB.out.setCell (Nat.le_refl _) _).drew⟩
              case measure => simp [intOf]; omega)
          · obtain rfl : j = c := by omega
            have hr' : BR wr wv.heap.size 5 wv.heap.size s.size cap (bytesV (xorTo key.data.toList nonce.data.toList s.data.toList (64 * (m + 1)))) := by
              rcases hc3.out with h | h
              · rw [show 64 * (m + 1) = 64 * m + j by omega]; exact hr
              · rw [xorTo_more _ _ _ _ (by omega)]
                rw [xorTo_more _ _ _ _ (by omega)] at hr
                exact hr
            have HR := hide hr'
            have HB := hide hb
            clear hr hr' hO hb hc3
            go_wp2
            go_roundw
            case rel => exact ⟨m + 1, by omega, by go_num, HR.out, HB.out⟩
            case measure => simp [intOf]; omega
    · rw [xorTo_more _ _ _ _ (by omega)] at hr
      have x3 : ¬ ((64 * m : Nat) : Int) < (s.size : Int) := by omega
      generalize hX : xorL key.data.toList nonce.data.toList s.data.toList = X at hr
      have HX := hide hX
      clear hX Q2 P1 P2
      go_wp2_with ((with_reducible refine conv_out wv.heap.size s.size cap X ?_ hr ?_); rfl)
      go_ret2
      exact ⟨by rw [HX.out]; rfl, hb⟩
end Go.Proofs.YteckhejfmbiamaaDoor
