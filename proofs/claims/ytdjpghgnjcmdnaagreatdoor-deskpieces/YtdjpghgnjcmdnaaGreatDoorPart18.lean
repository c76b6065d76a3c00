/- Texts of this proof, one behind the other. -/
import Derived.Deep.RegionLaw
import Derived.Test.YtdjpghgnjcmdnaaGreatDoorPart17
/- The sixteen words ahead of the rounds: what the program's own functions come to, for every key, number and nonce. -/
namespace Go.Proofs.YtdjpghgnjcmdnaaGreatDoor
open Go.RowKit
attribute [local go_sem] N_or N_byte N_shl24 N_shl16 N_shl8
attribute [local go_sem ↓] Go.wp_at_zero Go.wp_at_succ
theorem lword_ext (s : ByteArray) (k : Nat) (h0 : 0 < (s.extract (4 * k) (4 * k + 4)).size) (h1 : 1 < (s.extract (4 * k) (4 * k + 4)).size) (h2 : 2 < (s.extract (4 * k) (4 * k + 4)).size) (h3 : 3 < (s.extract (4 * k) (4 * k + 4)).size) :
    bw ((s.extract (4 * k) (4 * k + 4))[0]'h0) ||| bw ((s.extract (4 * k) (4 * k + 4))[1]'h1) <<< 8 ||| bw ((s.extract (4 * k) (4 * k + 4))[2]'h2) <<< 16 ||| bw ((s.extract (4 * k) (4 * k + 4))[3]'h3) <<< 24 = lwordAt s.data.toList k := by
  rw [ext_at, ext_at, ext_at, ext_at]; rfl
set_option maxRecDepth 100000 in
set_option maxHeartbeats 400000 in
theorem wordAt_any (s : ByteArray) (k : Nat) (hk : 4 * k + 4 ≤ s.size) (hs : s.size ≤ 100) (w : World) :
    Calls Tryz.prog 182 #[.string s, .int .i64 k] w fun e w' => e = .returned (.int .u32 (N (lwordAt s.data.toList k))) ∧ w' = w.drew := by
  have hbs : (s.extract (4 * k) (4 * k + 4)).size = 4 := by simp; omega
  have he := hide (lword_ext s k (by omega) (by omega) (by omega) (by omega))
  go_enter Tryz.func182, Tryz.ntmps182
  go_wp2
  go_region
  go_wp2
  go_ret
  exact ⟨ret_val (by rw [← he.out]; rfl), rfl⟩
/-- The first k of sixteen words, the others nought. -/
def part (F : List (BitVec 32)) (k : Nat) : List (BitVec 32) := F.take k ++ List.replicate (16 - k) 0
theorem part_len (F : List (BitVec 32)) (k : Nat) (h : F.length = 16) (hk : k ≤ 16) : (part F k).length = 16 := by simp [part, h]; omega
theorem part_succ (F : List (BitVec 32)) (k : Nat) (h : F.length = 16) (hk : k < 16) : (part F k).set k (wd F k) = part F (k + 1) := by
  unfold part
  have e : F.take (k + 1) = F.take k ++ [wd F k] := by
    rw [List.take_succ_eq_append_getElem (by omega)]
    simp [wd, h, hk]
  have e2 : 16 - k = (16 - (k + 1)) + 1 := by omega
  rw [e, List.set_append_right _ _ (by simp; omega), e2, List.replicate_succ]
  have e3 : k - (F.take k).length = 0 := by simp; omega
  rw [e3]
  simp
theorem part_full (F : List (BitVec 32)) (h : F.length = 16) : part F 16 = F := by
  rw [part, List.take_of_length_le (by omega)]; simp
theorem first_sigma (key : List UInt8) (n : BitVec 32) (nonce : List UInt8) (k : Nat) (h : k < 4) : wd (first key n nonce) k = lwordAt sigma k := by
  match k, h with
  | 0, _ => rfl
  | 1, _ => rfl
  | 2, _ => rfl
  | 3, _ => rfl
theorem first_key (key : List UInt8) (n : BitVec 32) (nonce : List UInt8) (k : Nat) (h : k < 8) : wd (first key n nonce) (4 + k) = lwordAt key k := by
  match k, h with
  | 0, _ => rfl
  | 1, _ => rfl
  | 2, _ => rfl
  | 3, _ => rfl
  | 4, _ => rfl
  | 5, _ => rfl
  | 6, _ => rfl
  | 7, _ => rfl
theorem first_num (key : List UInt8) (n : BitVec 32) (nonce : List UInt8) : wd (first key n nonce) 12 = n := rfl
theorem first_nonce (key : List UInt8) (n : BitVec 32) (nonce : List UInt8) (k : Nat) (h : k < 3) : wd (first key n nonce) (13 + k) = lwordAt nonce k := by
  match k, h with
  | 0, _ => rfl
  | 1, _ => rfl
  | 2, _ => rfl
/-- Sixteen noughts. -/
def z16 : List (BitVec 32) := List.replicate 16 0
theorem z16_len : z16.length = 16 := rfl
theorem zeros16 : (#[.int .u32 0, .int .u32 0, .int .u32 0, .int .u32 0, .int .u32 0, .int .u32 0, .int .u32 0, .int .u32 0, .int .u32 0, .int .u32 0, .int .u32 0, .int .u32 0, .int .u32 0, .int .u32 0, .int .u32 0, .int .u32 0] : Array Value) = rowW z16 := rfl
theorem part_zero (F : List (BitVec 32)) : part F 0 = z16 := by simp [part, z16]
theorem sigma_any (k : Nat) (hk : k < 4) (w : World) :
    Calls Tryz.prog 182 #[.string ⟨#[101, 120, 112, 97, 110, 100, 32, 51, 50, 45, 98, 121, 116, 101, 32, 107]⟩, .int .i64 k] w fun e w' => e = .returned (.int .u32 (N (lwordAt sigma k))) ∧ w' = w.drew :=
  wordAt_any ⟨#[101, 120, 112, 97, 110, 100, 32, 51, 50, 45, 98, 121, 116, 101, 32, 107]⟩ k (by show 4 * k + 4 ≤ 16; omega) (by show 16 ≤ 100; omega) w
set_option maxRecDepth 100000 in
set_option maxHeartbeats 1000000 in
theorem firstWords_any (key nonce : ByteArray) (n : BitVec 32) (hk : key.size = 32) (hn : nonce.size = 12) (w : World) :
    Calls Tryz.prog 134 #[.string key, .int .u32 (N n), .string nonce] w fun e w' => e = .returned (.agg (rowW (first key.data.toList n nonce.data.toList))) ∧ Below w.heap.size w w' := by
  have q1 := hide (fun k (h : k < 4) wx => sigma_any k h wx)
  have q2 := hide (fun k (h : k < 8) wx => wordAt_any key k (by omega) (by omega) wx)
  have q3 := hide (fun k (h : k < 3) wx => wordAt_any nonce k (by omega) (by omega) wx)
  have p1 := hide (fun k h => first_sigma key.data.toList n nonce.data.toList k h)
  have p2 := hide (fun k h => first_key key.data.toList n nonce.data.toList k h)
  have p3 := hide (fun k h => first_nonce key.data.toList n nonce.data.toList k h)
  have p4 := hide (first_num key.data.toList n nonce.data.toList)
  have lF := first_len key.data.toList n nonce.data.toList
  generalize first key.data.toList n nonce.data.toList = F at p1 p2 p3 p4 lF ⊢
  go_enter Tryz.func134, Tryz.ntmps134
  go_wp2
  go_loopw [11] (fun i wr => ∃ k : Nat, k ≤ 4 ∧ i = .int .i64 k ∧ HasW wr (w.heap.size + 1) 194 (part F k) ∧ HasW wr w.heap.size 194 z16 ∧ Below w.heap.size w wr)
     (fun i _ => 4 - (intOf i).toNat)
  case atStart =>
    rw [zeros16]
    exact ⟨0, by omega, rfl, by rw [part_zero]; exact HasR.new2 _ _ _ _, (HasR.new w 194 (rowW z16)).alloc _, ((Below.refl _ _).alloc (Nat.le_refl _) _).alloc (by simp) _⟩
  case round =>
    obtain ⟨k, hk', rfl, h1, h0, hb⟩ := hrel
    by_cases hlt : k < 4
    · have i1 : (k : Int) < 16 := by omega
      have HF := hide (h1.drew.free k)
      have HC := hide (h1.drew.cell k (by rw [part_len F k lF (by omega)]; omega))
      go_wp2_with (go_at_call 182; refine (q1.out k hlt _).mono ?_; rintro e w1 ⟨rfl, rfl⟩; have hf := HF.out; have hc := HC.out)
      go_roundw
      case rel => exact ⟨k + 1, by omega, by go_num, by rw [← part_succ F k lF (by omega), p1.out k hlt]; exact h1.drew.set k _, h0.drew.other _ (by simp) _, hb.drew.setCell (by simp) _⟩
      case measure => simp [intOf]; omega
    · obtain rfl : k = 4 := by omega
      go_wp2
      go_loopw [19] (fun i wx => ∃ k : Nat, k ≤ 8 ∧ i = .int .i64 k ∧ HasW wx (w.heap.size + 1) 194 (part F (4 + k)) ∧ HasW wx w.heap.size 194 z16 ∧ Below w.heap.size w wx)
        (fun i _ => 8 - (intOf i).toNat)
      case atStart => exact ⟨0, by omega, rfl, h1, h0, hb⟩
      case round =>
        clear h1 h0 hb hlt hk' q1 p1
        obtain ⟨k, hk', rfl, h1, h0, hb⟩ := hrel
        by_cases hlt : k < 8
        · have i1 : 4 + (k : Int) < 16 := by omega
          have i0 : (0 : Int) ≤ 4 + (k : Int) := by omega
          have it : (4 + (k : Int)).toNat = 4 + k := by omega
          have iw : IntKind.i64.wrap (4 + (k : Int)) = 4 + (k : Int) := by rw [IntKind.wrap_i64]; omega
          have HF := hide (h1.drew.free (4 + k))
          have HC := hide (h1.drew.cell (4 + k) (by rw [part_len F (4 + k) lF (by omega)]; omega))
          go_wp2_with (go_at_call 182; refine (q2.out k hlt _).mono ?_; rintro e w1 ⟨rfl, rfl⟩; have hf := HF.out; have hc := HC.out)
          go_roundw
          case rel => (repeat apply Exists.intro); exact ⟨⟨k + 1, by omega, by go_num, by rw [← Nat.add_assoc, ← part_succ F (4 + k) lF (by omega), p2.out k hlt]; exact h1.drew.set (4 + k) _, h0.drew.other _ (by simp) _, hb.drew.setCell (by simp) _⟩, rfl⟩
          case measure => simp [intOf]; omega
        · obtain rfl : k = 8 := by omega
          have hf := h1.free 12
          have hc := h1.cell 12 (by rw [part_len F 12 lF (by omega)]; omega)
          have h1' := h1.set 12 n
          rw [← p4.out, part_succ F 12 lF (by omega), p4.out] at h1'
          have h0' := h0.other ⟨w.heap.size + 1, 12, none⟩ (by simp) (.int .u32 (N n))
          have hb' := hb.setCell (p := ⟨w.heap.size + 1, 12, none⟩) (by simp) (.int .u32 (N n))
          have H1 := hide h1'
          have H0 := hide h0'
          have HB := hide hb'
          clear h1 h1' h0 h0' hb hb'
          go_wp2
          go_loopw [31] (fun i wy => ∃ k : Nat, k ≤ 3 ∧ i = .int .i64 k ∧ HasW wy (w.heap.size + 1) 194 (part F (13 + k)) ∧ HasW wy w.heap.size 194 z16 ∧ Below w.heap.size w wy)
            (fun i _ => 3 - (intOf i).toNat)
          case atStart => exact ⟨0, by omega, rfl, H1.out, H0.out, HB.out⟩
          case round =>
            clear H1 H0 HB hf hc hlt hk' q2 p2
            obtain ⟨k, hk', rfl, h1, h0, hb⟩ := hrel
            by_cases hlt : k < 3
            · have i1 : 13 + (k : Int) < 16 := by omega
              have i0 : (0 : Int) ≤ 13 + (k : Int) := by omega
              have it : (13 + (k : Int)).toNat = 13 + k := by omega
              have iw : IntKind.i64.wrap (13 + (k : Int)) = 13 + (k : Int) := by rw [IntKind.wrap_i64]; omega
              have HF := hide (h1.drew.free (13 + k))
              have HC := hide (h1.drew.cell (13 + k) (by rw [part_len F (13 + k) lF (by omega)]; omega))
              go_wp2_with (go_at_call 182; refine (q3.out k hlt _).mono ?_; rintro e w1 ⟨rfl, rfl⟩; have hf := HF.out; have hc := HC.out)
              go_roundw
              case rel => (repeat apply Exists.intro); exact ⟨⟨k + 1, by omega, by go_num, by rw [← Nat.add_assoc, ← part_succ F (13 + k) lF (by omega), p3.out k hlt]; exact h1.drew.set (13 + k) _, h0.drew.other _ (by simp) _, hb.drew.setCell (by simp) _⟩, rfl⟩
              case measure => simp [intOf]; omega
            · obtain rfl : k = 3 := by omega
              have e16 : part F (13 + 3) = F := part_full F lF
              rw [e16] at h1
              clear e16
              have h0R : HasR wr w.heap.size 194 (rowW z16) := h0
              go_wp2_with (first
                | ((with_reducible refine load_row 194 (w.heap.size + 1) F 194 ?_ ?_ Tryz.underlying194 ?_ ?_ ?_); rfl; exact h1; rfl; (rw [lF]; kernel_rfl))
                | ((with_reducible refine store_row 194 w.heap.size F 194 (rowW z16) ?_ ?_ h0R ?_ ?_ ?_); rfl; rfl; (rw [rowW_size, lF, z16_len]); (rw [lF]; kernel_rfl); generalize hW4 : World.setCells _ _ _ _ = W4; have hR4 : HasW W4 w.heap.size 194 F := whole_words h0 hW4 (by rw [rowW_size, lF, z16_len]); have hb4 : Below w.heap.size w W4 := below_setCells' hb hW4 (Nat.le_refl _); clear hW4))
              exact bodyPost_ret (v := .agg (rowW F)) (results_cell_row Tryz.results134 _ _ w.heap.size 194 (rowW F) (0, 0) _ rfl hR4 Tryz.underlying194 rfl (by rw [rowW_size, lF]; kernel_rfl)) rfl ⟨rfl, hb4⟩
end Go.Proofs.YtdjpghgnjcmdnaaGreatDoor

/- A block: what the program's own function comes to, for every key, number and nonce. -/
namespace Go.Proofs.YtdjpghgnjcmdnaaGreatDoor
open Go.RowKit
attribute [local go_sem] N_addm size_setCells
attribute [local go_sem ↓] Go.wp_at_zero Go.wp_at_succ
/-- Bytes as cells. -/
def rowB (l : List UInt8) : Array Value := (bytesV l).toArray
theorem rowB_size (l : List UInt8) : (rowB l).size = l.length := by simp [rowB, bytesV]
theorem rowB_set (l : List UInt8) (i : Nat) (x : UInt8) : (rowB l).setIfInBounds i (.int .u8 (x.toNat : Int)) = rowB (l.set i x) := by
  simp [rowB, bytesV, List.map_set]
theorem rowB_get (l : List UInt8) (i : Nat) (h : i < l.length) : (rowB l)[i]? = some (.int .u8 ((l.getD i 0).toNat : Int)) := by
  simp [rowB, bytesV, h]
theorem rowB_one (l : List UInt8) : (rowB l).all (·.oneCell') = true := by
  refine Array.all_eq_true_iff_forall_mem.2 ?_
  intro v hv
  simp only [rowB, bytesV, List.mem_toArray, List.mem_map] at hv
  obtain ⟨x, _, rfl⟩ := hv
  rfl
theorem HasR.setB {w : World} {B : Nat} {t : TypeId} {l : List UInt8} (h : HasR w B t (rowB l)) (i : Nat) (x : UInt8) : HasR (w.setCell ⟨B, i, none⟩ (.int .u8 (x.toNat : Int))) B t (rowB (l.set i x)) := by
  rw [← rowB_set]; exact h.set i _
theorem HasR.cellB {w : World} {B : Nat} {t : TypeId} {l : List UInt8} (h : HasR w B t (rowB l)) (i : Nat) (hi : i < l.length) : w.cell? ⟨B, i, none⟩ = some (.int .u8 ((l.getD i 0).toNat : Int)) := by
  rw [h.cell i, rowB_get l i hi]
/-- A whole row of bytes is stored into a block. -/
theorem store_rowB {P : Program} {ops : Array Oper} {rest : List Oper} {a : Act} {w : World} {Q : Exit → Act → World → Prop} {t : TypeId} {pos : String} {af : Array Edge} {x y : Operand} (ty : TypeId) (b : Nat) (l : List UInt8) (tt : TypeId) (cs : Array Value)
    (hx : a.eval x = .pointer (some ⟨b, 0, none⟩)) (hy : a.eval y = .agg (rowB l)) (hr : HasR w b tt cs) (hl : l.length = cs.size) (hi : (P.info? ty).map (·.size) = some l.length)
    (h : wpList P ops Q rest (a.put none undef) (w.setCells b 0 (rowB l).toList)) :
    wpList P ops Q (⟨none, .store ty x y, t, pos, af, none⟩ :: rest) a w :=
  wpList_store_mid rfl ty x y rfl b 0 (rowB l) hx hy (by rw [rowB_size, hl]; exact hr.there) (by rw [rowB_size]; exact hi) (rowB_one l) h
/-- A whole row of bytes is read out of a block. -/
theorem load_rowB {P : Program} {ops : Array Oper} {rest : List Oper} {a : Act} {w : World} {Q : Exit → Act → World → Prop} {t : TypeId} {pos : String} {af : Array Edge} {x : Operand} {d : Tmp} (ty : TypeId) (b : Nat) (l : List UInt8) (tt : TypeId) {td : TypeDesc}
    (hx : a.eval x = .pointer (some ⟨b, 0, none⟩)) (hr : HasR w b tt (rowB l)) (hu : P.underlying ty = some td) (hd : (match td with | .struct _ | .array _ _ => true | _ => false) = true) (hi : (P.info? ty).map (·.size) = some l.length)
    (h : wpList P ops Q rest (a.put (some d) (.agg (rowB l))) w) :
    wpList P ops Q (⟨some d, .load ty x, t, pos, af, none⟩ :: rest) a w :=
  wpList_load_row rfl ty x rfl b hx tt (rowB l) (0, 0) td hr hu hd (by rw [rowB_size]; exact hi) h
theorem whole_bytes {w W : World} {B : Nat} {t : TypeId} {cs : Array Value} {l : List UInt8} (h : HasR w B t cs) (hW : w.setCells B 0 (rowB l).toList = W) (hl : l.length = cs.size) : HasR W B t (rowB l) := by
  have := HasR.whole h (rowB l).toList (by rw [Array.length_toList, rowB_size, hl])
  rw [hW] at this
  simpa using this
/-- Sixty-four noughts. -/
def zb : List UInt8 := List.replicate 64 0
theorem zb_len : zb.length = 64 := rfl
theorem zerosB : (#[.int .u8 0, .int .u8 0, .int .u8 0, .int .u8 0, .int .u8 0, .int .u8 0, .int .u8 0, .int .u8 0, .int .u8 0, .int .u8 0, .int .u8 0, .int .u8 0, .int .u8 0, .int .u8 0, .int .u8 0, .int .u8 0, .int .u8 0, .int .u8 0, .int .u8 0, .int .u8 0, .int .u8 0, .int .u8 0, .int .u8 0, .int .u8 0, .int .u8 0, .int .u8 0, .int .u8 0, .int .u8 0, .int .u8 0, .int .u8 0, .int .u8 0, .int .u8 0, .int .u8 0, .int .u8 0, .int .u8 0, .int .u8 0, .int .u8 0, .int .u8 0, .int .u8 0, .int .u8 0, .int .u8 0, .int .u8 0, .int .u8 0, .int .u8 0, .int .u8 0, .int .u8 0, .int .u8 0, .int .u8 0, .int .u8 0, .int .u8 0, .int .u8 0, .int .u8 0, .int .u8 0, .int .u8 0, .int .u8 0, .int .u8 0, .int .u8 0, .int .u8 0, .int .u8 0, .int .u8 0, .int .u8 0, .int .u8 0, .int .u8 0, .int .u8 0] : Array Value) = rowB zb := rfl
/-- The bytes of the first k words of a block, the others nought. -/
def partB (O : List UInt8) (k : Nat) : List UInt8 := O.take (4 * k) ++ List.replicate (64 - 4 * k) 0
theorem partB_len (O : List UInt8) (k : Nat) (h : O.length = 64) (hk : k ≤ 16) : (partB O k).length = 64 := by simp [partB, h]; omega
theorem partB_full (O : List UInt8) (h : O.length = 64) : partB O 16 = O := by
  rw [partB, List.take_of_length_le (by omega)]; simp
theorem partB_zero (O : List UInt8) : partB O 0 = zb := by simp [partB, zb]
theorem outTo_pre (W F : List (BitVec 32)) (k m : Nat) (h : k ≤ m) : (outTo W F m).take (4 * k) = outTo W F k := by
  induction m with
  | zero =>
    have : k = 0 := by omega
    subst this; rfl
  | succ m ih =>
    rw [outTo_succ]
    by_cases hk : k = m + 1
    · subst hk
      rw [← outTo_succ, List.take_of_length_le (by rw [outTo_len]; omega)]
    · rw [List.take_append_of_le_length (by rw [outTo_len]; omega), ih (by omega)]
theorem partB_succ (W F : List (BitVec 32)) (k : Nat) (hk : k < 16) (x : BitVec 32) (hx : x = wd W k + wd F k) :
    ((((partB (outTo W F 16) k).set (4 * k) (UInt8.ofNat x.toNat)).set (4 * k + 1) (UInt8.ofNat (x.toNat / 256))).set (4 * k + 2) (UInt8.ofNat (x.toNat / 65536))).set (4 * k + 3) (UInt8.ofNat (x.toNat / 16777216)) = partB (outTo W F 16) (k + 1) := by
  subst hx
  unfold partB
  have e : 4 * (k + 1) = 4 * k + 4 := by omega
  rw [outTo_pre W F k 16 (by omega), outTo_pre W F (k + 1) 16 (by omega), outTo_succ]
  have l := outTo_len W F k
  have e2 : 64 - 4 * k = (64 - 4 * (k + 1)) + 4 := by omega
  rw [e2]
  generalize 64 - 4 * (k + 1) = z
  generalize outTo W F k = A at l ⊢
  rw [List.set_append_right _ _ (by omega), List.set_append_right _ _ (by omega), List.set_append_right _ _ (by omega), List.set_append_right _ _ (by omega)]
  have e4 : 4 * k - A.length = 0 := by omega
  have e5 : 4 * k + 1 - A.length = 1 := by omega
  have e6 : 4 * k + 2 - A.length = 2 := by omega
  have e7 : 4 * k + 3 - A.length = 3 := by omega
  rw [e4, e5, e6, e7, List.append_assoc]
  rfl
theorem byte0 (x : BitVec 32) : N x % 256 = ((UInt8.ofNat x.toNat).toNat : Int) := by simp [N]
theorem byte8 (x : BitVec 32) : N x / 256 % 256 = ((UInt8.ofNat (x.toNat / 256)).toNat : Int) := by simp [N]
theorem byte16 (x : BitVec 32) : N x / 65536 % 256 = ((UInt8.ofNat (x.toNat / 65536)).toNat : Int) := by simp [N]
theorem byte24 (x : BitVec 32) : N x / 16777216 % 256 = ((UInt8.ofNat (x.toNat / 16777216)).toNat : Int) := by simp [N]
theorem index16 (L : List (BitVec 32)) (hl : L.length = 16) (k : Nat) (h : k < 16) (w : World) : (Instr.index 194 (.agg (rowW L)) (.int .i64 (k : Int))).run Tryz.prog w = .ok (.int .u32 (N (wd L k))) w := by
  have h1 := rowW_get L k (by omega)
  have hi : (0 : Int) ≤ (k : Int) ∧ (k : Int) < (16 : Nat) := by omega
  have hz : (sizeOf 149).run Tryz.prog w = .ok 1 w := by kernel_rfl
  simp [Instr.index, run_underlying Tryz.underlying194, asIntOf, hi, hz, h1, go_sem]
  omega
set_option maxRecDepth 100000 in
set_option maxHeartbeats 1000000 in
theorem block_any (key nonce : ByteArray) (n : BitVec 32) (hk : key.size = 32) (hn : nonce.size = 12) (w : World) :
    Calls Tryz.prog 95 #[.string key, .int .u32 (N n), .string nonce] w fun e w' => e = .returned (.agg (rowB (blockL key.data.toList n nonce.data.toList))) ∧ Below w.heap.size w w' := by
  have q1 := hide (fun wx => firstWords_any key nonce n hk hn wx)
  have lF := first_len key.data.toList n nonce.data.toList
  have hO : blockL key.data.toList n nonce.data.toList = outTo (dblTo (first key.data.toList n nonce.data.toList) 10) (first key.data.toList n nonce.data.toList) 16 := rfl
  generalize blockL key.data.toList n nonce.data.toList = O at hO ⊢
  generalize first key.data.toList n nonce.data.toList = F at q1 lF hO
  have HO := hide hO
  clear hO
  go_enter Tryz.func95, Tryz.ntmps95
  go_wp2_with fail
  refine (q1.out _).mono ?_
  rintro e w1 ⟨rfl, hb1⟩
  rw [zerosB] at hb1
  have hA : HasR w1 w.heap.size 147 (rowB zb) := (HasR.new w 147 (rowB zb)).below hb1 (by simp)
  have hbw : Below w.heap.size w w1 := ((Below.refl _ _).alloc (Nat.le_refl _) _).trans (hb1.mono (by simp))
  have hsz1 : w.heap.size + 1 ≤ w1.heap.size := by have := hb1.size; simpa using this
  clear hb1 q1
  go_wp2_with (first
    | ((with_reducible refine store_row 194 w1.heap.size F 194 (rowW z16) ?_ ?_ ?_ ?_ ?_ ?_); rfl; rfl; exact HasR.new w1 194 (rowW z16); (rw [rowW_size, lF, z16_len]); (rw [lF]; kernel_rfl); rw [zeros16]; generalize hW2 : World.setCells _ _ _ _ = W2; have hF2 : HasW W2 w1.heap.size 194 F := whole_words (HasR.new w1 194 (rowW z16)) hW2 (by rw [lF, rowW_size, z16_len]); have hA2 : HasR W2 w.heap.size 147 (rowB zb) := HasR.others' (hA.alloc _) hW2 (by omega); have hsz2 : W2.heap.size = w1.heap.size + 1 := (by rw [← hW2, size_setCells]; simp); have hb2 : Below w.heap.size w W2 := below_setCells' (hbw.alloc (by omega) _) hW2 (by omega); clear hW2)
    | ((with_reducible refine load_row 194 w1.heap.size F 194 ?_ ?_ Tryz.underlying194 ?_ ?_ ?_); rfl; exact hF2; rfl; (rw [lF]; kernel_rfl))
    | ((with_reducible refine store_row 194 (w1.heap.size + 1) F 194 _ ?_ ?_ (HasR.new' hsz2 194 _) ?_ ?_ ?_); rfl; rfl; (rw [lF]; rfl); (rw [lF]; kernel_rfl); generalize hW3 : World.setCells _ _ _ _ = W3; have hV3 : HasW W3 (w1.heap.size + 1) 194 F := whole_words (HasR.new' hsz2 194 _) hW3 (by rw [lF]; rfl); have hF3 : HasW W3 w1.heap.size 194 F := HasR.others' (hF2.alloc _) hW3 (by omega); have hA3 : HasR W3 w.heap.size 147 (rowB zb) := HasR.others' (hA2.alloc _) hW3 (by omega); have hb3 : Below w.heap.size w W3 := below_setCells' (hb2.alloc (by omega) _) hW3 (by omega); have hsz3 : W3.heap.size = w1.heap.size + 2 := (by rw [← hW3, size_setCells]; simp [hsz2]); clear hW3 hF2 hA2 hb2 hsz2))
  rename_i W2 W3
  clear hA hbw
  go_loopw [17] (fun i wr => ∃ k : Nat, k ≤ 10 ∧ i = .int .i64 k ∧ HasW wr (w1.heap.size + 1) 194 (dblTo F k) ∧ HasW wr w1.heap.size 194 F ∧ HasR wr w.heap.size 147 (rowB zb) ∧ wr.heap.size = w1.heap.size + 2 ∧ Below w.heap.size w wr)
    (fun i _ => 10 - (intOf i).toNat)
  case atStart => exact ⟨0, by omega, rfl, hV3, hF3, hA3, hsz3, hb3⟩
  case round =>
    clear hV3 hF3 hA3 hsz3 hb3
    obtain ⟨k, hk', rfl, hV, hF, hA, hsz, hb⟩ := hrel
    by_cases hlt : k < 10
    · have lD : (dblTo F k).length = 16 := by rw [dblTo_len, lF]
      have HC := hide (double_any (w1.heap.size + 1) (dblTo F k) lD wr hV)
      go_wp2_with (go_at_call 135; refine (HC.out).mono ?_; rintro e w2 ⟨rfl, h2, o2⟩)
      go_roundw
      case rel => exact ⟨k + 1, by omega, by go_num, h2, o2.hasR hF (by omega), o2.hasR hA (by omega), by rw [o2.size, hsz], hb.trans (o2.below (by omega))⟩
      case measure => simp [intOf]; omega
    · obtain rfl : k = 10 := by omega
      have lD : (dblTo F 10).length = 16 := by rw [dblTo_len, lF]
      have hO := HO.out
      generalize dblTo F 10 = W at hO lD hV
      clear HO
      have lO : O.length = 64 := by rw [hO]; exact outTo_len W F 16
      have HS : Hid (∀ k, k < 16 → ((((partB O k).set (4 * k) (UInt8.ofNat (wd W k + wd F k).toNat)).set (4 * k + 1) (UInt8.ofNat ((wd W k + wd F k).toNat / 256))).set (4 * k + 2) (UInt8.ofNat ((wd W k + wd F k).toNat / 65536))).set (4 * k + 3) (UInt8.ofNat ((wd W k + wd F k).toNat / 16777216)) = partB O (k + 1)) := hide (fun k hk => by rw [hO]; exact partB_succ W F k hk _ rfl)
      clear hO
      go_wp2_with (first
        | ((with_reducible refine load_row 194 (w1.heap.size + 1) W 194 ?_ ?_ Tryz.underlying194 ?_ ?_ ?_); rfl; exact hV.alloc _; rfl; (rw [lD]; kernel_rfl)))
      have hC : HasR (wr.alloc (.cells (rowB zb) 147)) (w1.heap.size + 2) 147 (rowB zb) := HasR.new' hsz 147 (rowB zb)
      have hF2 : HasW (wr.alloc (.cells (rowB zb) 147)) w1.heap.size 194 F := hF.alloc _
      have hA2 : HasR (wr.alloc (.cells (rowB zb) 147)) w.heap.size 147 (rowB zb) := hA.alloc _
      have hb2 : Below w.heap.size w (wr.alloc (.cells (rowB zb) 147)) := hb.alloc hb.size _
      clear hV hF hA hb
      go_loopw [22] (fun i wx => ∃ k : Nat, k ≤ 16 ∧ i = .int .i64 k ∧ HasR wx (w1.heap.size + 2) 147 (rowB (partB O k)) ∧ HasW wx w1.heap.size 194 F ∧ HasR wx w.heap.size 147 (rowB zb) ∧ Below w.heap.size w wx)
        (fun i _ => 16 - (intOf i).toNat)
      case atStart =>
        rw [zerosB]
        exact ⟨0, by omega, rfl, by rw [partB_zero]; exact hC, hF2, hA2, hb2⟩
      case round =>
        clear hC hF2 hA2 hb2 hlt hk'
        obtain ⟨k, hk', rfl, hC, hF, hA, hb⟩ := hrel
        by_cases hlt : k < 16
        · have lP := partB_len O k lO (by omega)
          have hix := index16 W lD k hlt
          have cF := hF.cell k (by omega)
          have i1 : (k : Int) < 16 := by omega
          have i4 : (4 * (k : Int)) < 64 := by omega
          have i5 : (4 * (k : Int) + 1) < 64 := by omega
          have i6 : (4 * (k : Int) + 2) < 64 := by omega
          have i7 : (4 * (k : Int) + 3) < 64 := by omega
          have g4 : (0 : Int) ≤ (4 * (k : Int)) := by omega
          have g5 : (0 : Int) ≤ (4 * (k : Int) + 1) := by omega
          have g6 : (0 : Int) ≤ (4 * (k : Int) + 2) := by omega
          have g7 : (0 : Int) ≤ (4 * (k : Int) + 3) := by omega
          have t4 : (4 * (k : Int)).toNat = 4 * k := by omega
          have t5 : (4 * (k : Int) + 1).toNat = 4 * k + 1 := by omega
          have t6 : (4 * (k : Int) + 2).toNat = 4 * k + 2 := by omega
          have t7 : (4 * (k : Int) + 3).toNat = 4 * k + 3 := by omega
          have c4 := hC.cellB (4 * k) (by omega)
          have c5 := hC.cellB (4 * k + 1) (by omega)
          have c6 := hC.cellB (4 * k + 2) (by omega)
          have c7 := hC.cellB (4 * k + 3) (by omega)
          have f4 := hC.free (4 * k)
          have f5 := hC.free (4 * k + 1)
          have f6 := hC.free (4 * k + 2)
          have f7 := hC.free (4 * k + 3)
          have HX := HS.out k hlt
          have HX' := hide HX
          clear HX
          have HC := hide hC
          have HA := hide hA
          have HF := hide hF
          have HB := hide hb
          clear hC hA hF hb lD lF lO HS lP
          generalize partB O k = P at c4 c5 c6 c7 HX' HC
          generalize wd W k = a at hix HX'
          generalize wd F k = b at cF HX'
          have hab := N_addm a b
          go_upto_region 12 with fail
          rw [hab]
          generalize a + b = x at HX'
          clear hix cF hab
          go_wp2
          rw [byte0, byte8, byte16, byte24]
          go_roundw
          case rel =>
            exact ⟨k + 1, by omega, by go_num, by rw [← HX'.out]; exact (((HC.out.setB (4 * k) _).setB (4 * k + 1) _).setB (4 * k + 2) _).setB (4 * k + 3) _, (((HF.out.other _ (by simp) _).other _ (by simp) _).other _ (by simp) _).other _ (by simp) _, (((HA.out.other _ (by simp; omega) _).other _ (by simp; omega) _).other _ (by simp; omega) _).other _ (by simp; omega) _, (((HB.out.setCell (by simp; omega) _).setCell (by simp; omega) _).setCell (by simp; omega) _).setCell (by simp; omega) _⟩
          case measure => simp [intOf]; omega
        · obtain rfl : k = 16 := by omega
          rw [partB_full O lO] at hC
          clear HS
          go_wp2_with (first
            | ((with_reducible refine load_rowB 147 (w1.heap.size + 2) O 147 ?_ hC Tryz.underlying147 ?_ ?_ ?_); rfl; rfl; (rw [lO]; kernel_rfl))
            | ((with_reducible refine store_rowB 147 w.heap.size O 147 (rowB zb) ?_ ?_ hA ?_ ?_ ?_); rfl; rfl; (rw [rowB_size, lO, zb_len]); (rw [lO]; kernel_rfl); generalize hW4 : World.setCells _ _ _ _ = W4; have hR4 : HasR W4 w.heap.size 147 (rowB O) := whole_bytes hA hW4 (by rw [rowB_size, lO, zb_len]); have hb4 : Below w.heap.size w W4 := below_setCells' hb hW4 (Nat.le_refl _); clear hW4))
          exact bodyPost_ret (v := .agg (rowB O)) (results_cell_row Tryz.results95 _ _ w.heap.size 147 (rowB O) (0, 0) _ rfl hR4 Tryz.underlying147 rfl (by rw [rowB_size, lO]; kernel_rfl)) rfl ⟨rfl, hb4⟩
end Go.Proofs.YtdjpghgnjcmdnaaGreatDoor

/- Blocks and texts: what the program's own Block and Xor come to, for every key, number, nonce and text. -/
namespace Go.Proofs.YtdjpghgnjcmdnaaGreatDoor
open Go.RowKit
attribute [local go_sem] size_setCells
attribute [local go_sem ↓] Go.wp_at_zero Go.wp_at_succ
set_option maxRecDepth 100000 in
theorem fit_any (key nonce : ByteArray) (w : World) :
    Calls Tryz.prog 94 #[.string key, .string nonce] w fun e w' => e = .returned (.bool (decide (key.size = 32) && decide (nonce.size = 12))) ∧ w' = w := by
  by_cases h1 : key.size = 32
  · by_cases h2 : nonce.size = 12
    · have d1 : decide ((key.size : Int) = 32) = true := by simp; omega
      have d2 : decide ((nonce.size : Int) = 12) = true := by simp; omega
      go_enter Tryz.func94, Tryz.ntmps94
      go_wp2
      go_ret
      exact ⟨ret_val (by simp [h1, h2]), rfl⟩
    · have d1 : decide ((key.size : Int) = 32) = true := by simp; omega
      have d2 : decide ((nonce.size : Int) = 12) = false := by simp; omega
      go_enter Tryz.func94, Tryz.ntmps94
      go_wp2
      go_ret
      exact ⟨ret_val (by simp [h1, h2]; omega), rfl⟩
  · have d1 : decide ((key.size : Int) = 32) = false := by simp; omega
    go_enter Tryz.func94, Tryz.ntmps94
    go_wp2
    go_ret
    exact ⟨ret_val (by simp [h1]), rfl⟩
/-- Bytes turned into a text, whatever the block is called. -/
theorem conv_out' {ops : Array Oper} {rest : List Oper} {a : Act} {w : World} {Q : Exit → Act → World → Prop} {tt : TypeId} {pos : String} {af : Array Edge} {x : Operand} {d : Tmp} {base : Nat} {e : TypeId} (g n cap : Nat) (l : List UInt8) (hx : a.eval x = .slice (some ⟨g, 0, none⟩) n cap)
    (hr : BR w base e g n cap (bytesV l)) (h : wpList Tryz.prog ops Q rest (a.put (some d) (.string ⟨l.toArray⟩)) w) :
    wpList Tryz.prog ops Q (⟨some d, .convert 38 9 x, tt, pos, af, none⟩ :: rest) a w := by
  refine wpList_plain rfl fun K hK => ?_
  have hl : n = l.length := by rw [← hr.len, bytesV_len]
  subst hl
  have hrun := run_convert_bytes_back (P := Tryz.prog) w 38 9 5 ⟨g, 0, none⟩ cap l Tryz.underlying38 Tryz.underlying5 Tryz.underlying9 (fun j hj => by
    have hadd : (⟨g, 0, none⟩ : Addr).add j = ⟨g, j, none⟩ := by unfold Addr.add; split <;> simp_all
    rw [hadd, hr.cell j hj]
    simp [bytesV, hj])
  unfold Oper.wp execOp
  simp only [hx, Sem.run_bind, hrun, Result.andThen_ok, Sem.run_pure]
  exact hK _ _ h
theorem BR.of_row {w : World} {B : Nat} {t : TypeId} {l : List UInt8} (h : HasR w B t (rowB l)) (hl : l.length = 64) : BR w 0 t B 64 64 (bytesV l) :=
  ⟨by rw [bytesV_len, hl], Nat.zero_le _, Nat.le_refl _, rowB l, (0, 0), h, by rw [rowB_size, hl], by
    show (bytesV l).take 64 = _
    rw [List.take_of_length_le (by rw [bytesV_len]; omega)], .inl (Nat.le_refl _)⟩
theorem put_none (a : Act) (v : Value) : a.put none v = a := rfl
theorem B_xor (x y : UInt8) : bits .xor .u8 (x.toNat : Int) (y.toNat : Int) = ((x ^^^ y).toNat : Int) := by
  rw [u8_xor_nat _ _ x.toNat_lt y.toNat_lt, UInt8.toNat_xor]
theorem BR.free {w : World} {base : Nat} {e : TypeId} {g n cap : Nat} {xs : List Value} (h : BR w base e g n cap xs) (j : Nat) (hj : j < n) : w.frozen? ⟨g, j, none⟩ = false := by
  obtain ⟨cur, fr, hg, hs, ht, hf⟩ := h.blk
  have hle := h.le
  unfold World.frozen?
  simp only [hg]
  rcases hf with h5 | h5
  · simp; omega
  · simp; omega
theorem BR.cellB {w : World} {base : Nat} {e : TypeId} {g n cap : Nat} {l : List UInt8} (h : BR w base e g n cap (bytesV l)) (j : Nat) (hj : j < n) : w.cell? ⟨g, j, none⟩ = some (.int .u8 ((l.getD j 0).toNat : Int)) := by
  have hl := h.len
  rw [bytesV_len] at hl
  rw [h.cell j hj]
  simp [bytesV, hl, hj]
theorem BR.setB {w : World} {base : Nat} {e : TypeId} {g n cap : Nat} {l : List UInt8} (h : BR w base e g n cap (bytesV l)) (j : Nat) (x : UInt8) : BR (w.setCell ⟨g, j, none⟩ (.int .u8 (x.toNat : Int))) base e g n cap (bytesV (l.set j x)) := by
  obtain ⟨cur, fr, hg, hs, ht, hf⟩ := h.blk
  have hle := h.le
  have hl := h.len
  refine ⟨by rw [bytesV_len, List.length_set, ← bytesV_len]; exact hl, h.base, h.le, cur.setIfInBounds j (.int .u8 (x.toNat : Int)), fr, ?_, by simpa using hs, ?_, hf⟩
  · simp [World.setCell, Array.getElem?_modify, hg]
  · rw [Array.toList_setIfInBounds, List.take_set, ht]
    simp [bytesV, List.map_set]
theorem keyAt_block (key nonce : List UInt8) (m i : Nat) (h : i < 64) : keyAt key nonce (64 * m + i) = (blockL key (BitVec.ofNat 32 (1 + m)) nonce).getD i 0 := by
  unfold keyAt
  have e1 : (64 * m + i) / 64 = m := by omega
  have e2 : (64 * m + i) % 64 = i := by omega
  rw [e1, e2]
theorem xorTo_more (key nonce l : List UInt8) (k : Nat) (h : l.length ≤ k) : xorTo key nonce l k = xorL key nonce l := by
  unfold xorL xorTo
  apply List.map_congr_left
  intro i hi
  rw [List.mem_range] at hi
  rw [if_pos (by omega), if_pos (by omega)]
set_option maxRecDepth 100000 in
set_option maxHeartbeats 400000 in
theorem xor_bad (key nonce s : ByteArray) (w : World) (hb : ¬ (key.size = 32 ∧ nonce.size = 12)) :
    Calls Tryz.prog 203 #[.string key, .string nonce, .string s] w fun e w' => e = .returned (.tuple #[.string ByteArray.empty, .iface 25 (.int .i64 1)]) ∧ w' = w := by
  have q := fit_any key nonce w
  rw [show (decide (key.size = 32) && decide (nonce.size = 12)) = false by rw [Bool.eq_false_iff]; simpa using hb] at q
  have Q1 := hide q
  clear q
  go_enter Tryz.func203, Tryz.ntmps203
  go_wp2_with (go_at_call 94; refine Q1.out.mono ?_; rintro e w1 ⟨rfl, rfl⟩)
  go_ret2
  exact ⟨rfl, rfl⟩
set_option maxRecDepth 100000 in
set_option maxHeartbeats 1000000 in
theorem xor_ok (key nonce s : ByteArray) (w : World) (hk : key.size = 32) (hn : nonce.size = 12) (hs : s.size ≤ 100000) :
    Calls Tryz.prog 203 #[.string key, .string nonce, .string s] w fun e w' => e = .returned (.tuple #[.string ⟨(xorL key.data.toList nonce.data.toList s.data.toList).toArray⟩, .nilIface]) ∧ Below w.heap.size w w' := by
  have q := fit_any key nonce w
  rw [show (decide (key.size = 32) && decide (nonce.size = 12)) = true by simp [hk, hn]] at q
  have Q1 := hide q
  have Q2 := hide (fun m wx => block_any key nonce (BitVec.ofNat 32 (1 + m)) hk hn wx)
  have P1 := hide (fun m i h => keyAt_block key.data.toList nonce.data.toList m i h)
  have P2 := hide (fun m => blockL_len key.data.toList (BitVec.ofNat 32 (1 + m)) nonce.data.toList)
  clear q
  have ls : s.data.toList.length = s.size := rfl
  go_enter Tryz.func203, Tryz.ntmps203
  go_wp2_with (first
    | (go_at_call 94; refine Q1.out.mono ?_; rintro e wv ⟨rfl, rfl⟩)
    | ((with_reducible refine conv_in s ?_ ?_); rfl; intro cap w1 hr1 hg1 hz1))
  have hb1 : Below wv.heap.size wv w1 := (Below.refl _ wv).grown hg1 (Nat.le_refl _) (by intro k hk; simp at hk)
  clear hg1 hz1 Q1
  go_loopw [9] (fun i wr => ∃ m : Nat, 64 * m < s.size + 64 ∧ i = .int .i64 (64 * m : Nat) ∧ BR wr wv.heap.size 5 wv.heap.size s.size cap (bytesV (xorTo key.data.toList nonce.data.toList s.data.toList (64 * m))) ∧ Below wv.heap.size wv wr)
    (fun i _ => s.size + 64 - (intOf i).toNat)
  case atStart => exact ⟨0, by omega, rfl, by rw [xorTo_zero]; exact hr1, hb1⟩
  case round =>
    clear hr1 hb1
    obtain ⟨m, hm, rfl, hr, hb⟩ := hrel
    by_cases hlt : 64 * m < s.size
    · have q2 := Q2.out m
      have p1 := hide (P1.out m)
      have lO := P2.out m
      generalize blockL key.data.toList (BitVec.ofNat 32 (1 + m)) nonce.data.toList = O at q2 p1 lO
      have e1 : N (BitVec.ofNat 32 (1 + m)) = 1 + (m : Int) := by rw [N_ofNat _ (by omega)]; omega
      rw [e1] at q2
      have q2' := hide q2
      have x1 : ((64 * m : Nat) : Int) / 64 = (m : Int) := by omega
      have x2 : IntKind.u32.wrap (1 + (m : Int)) = 1 + (m : Int) := by rw [IntKind.wrap_u32']; omega
      have x3 : ((64 * m : Nat) : Int) < (s.size : Int) := by omega
      clear q2 e1
      go_upto_region 8 with (first
        | (go_at_call 95; refine (q2'.out _).mono ?_; rintro e w2 ⟨rfl, hb2⟩)
        | ((with_reducible refine store_rowB 147 w2.heap.size O 147 (rowB zb) ?_ ?_ ?_ ?_ ?_ ?_); rfl; rfl; exact HasR.new w2 147 (rowB zb); (rw [rowB_size, lO, zb_len]); (rw [lO]; kernel_rfl); rw [zerosB]; generalize hW3 : World.setCells _ _ _ _ = W3; have hO3 : HasR W3 w2.heap.size 147 (rowB O) := whole_bytes (HasR.new w2 147 (rowB zb)) hW3 (by rw [lO, rowB_size, zb_len]); have hb3 : Below w2.heap.size w2 W3 := below_setCells' ((Below.refl _ _).alloc (Nat.le_refl _) _) hW3 (Nat.le_refl _); clear hW3))
      have hr3 : BR W3 wv.heap.size 5 wv.heap.size s.size cap (bytesV (xorTo key.data.toList nonce.data.toList s.data.toList (64 * m))) := (hr.below hb2 hr.lt).below hb3 (by have := hb2.size; have := hr.lt; omega)
      have hB3 : Below wv.heap.size wv W3 := hb.trans ((hb2.mono hb.size).trans (hb3.mono (by have := hb2.size; have := hb.size; omega)))
      have hg2 : wv.heap.size < w2.heap.size := by have := hb2.size; have := hr.lt; omega
      obtain ⟨c, hc⟩ : ∃ c, c = min 64 (s.size - 64 * m) := ⟨_, rfl⟩
      clear hr hb hb2 hb3 q2'
      rw [put_none]
      go_cut [36, 37] (fun x i wx => x = .int .i64 (c : Nat) ∧ i = .int .i64 0 ∧ wx = W3)
      case first =>
        go_wp2
        all_goals (
          go_meet
          case rel => exact ⟨by first | (rw [hc]; go_num) | skip, rfl, rfl⟩)
      case rest =>
        obtain ⟨rfl, rfl, hwx⟩ := hcut
        subst hwx
        have hc1 : c ≤ 64 := by omega
        have hc2 : 64 * m + c ≤ s.size := by omega
        have hc3 := hide (show c = 64 ∨ 64 * m + c = s.size by omega)
        clear hc
        go_wp2
        go_loopw [37] (fun i wx => ∃ j : Nat, j ≤ c ∧ i = .int .i64 j ∧ BR wx wv.heap.size 5 wv.heap.size s.size cap (bytesV (xorTo key.data.toList nonce.data.toList s.data.toList (64 * m + j))) ∧ HasR wx w2.heap.size 147 (rowB O) ∧ Below wv.heap.size wv wx)
          (fun i _ => c - (intOf i).toNat)
        case atStart => exact ⟨0, by omega, rfl, hr3, hO3, hB3⟩
        case round =>
          clear hr3 hO3 hB3
          obtain ⟨j, hj, rfl, hr, hO, hb⟩ := hrel
          by_cases hj' : j < c
          · have f1 := hr.free (64 * m + j) (by omega)
            have c1 := hr.cellB (64 * m + j) (by omega)
            rw [xorTo_at _ _ _ _ _ (by omega) (Nat.le_refl _)] at c1
            have c2 := hO.cellB j (by omega)
            have i1 : (j : Int) < 64 := by omega
            have i2 : 64 * (m : Int) + (j : Int) < (s.size : Int) := by omega
            have i3 : (0 : Int) ≤ 64 * (m : Int) + (j : Int) := by omega
            have i4 : (64 * (m : Int) + (j : Int)).toNat = 64 * m + j := by omega
            have hS := xorTo_succ key.data.toList nonce.data.toList s.data.toList (64 * m + j)
            rw [p1.out j (by omega)] at hS
            have HS := hide hS
            have HR := hide hr
            have HO := hide hO
            have HB := hide hb
            clear hr hO hb hS
            generalize s.data.toList.getD (64 * m + j) 0 = x at c1 HS
            generalize O.getD j 0 = y at c2 HS
            go_wp2
            go_region
            all_goals (
              go_wp2
              rw [B_xor]
              go_roundw
              case rel => exact ⟨j + 1, by omega, by go_num, by rw [← Nat.add_assoc, ← HS.out]; exact (HR.out.setB (64 * m + j) _).drew, (HO.out.other _ (by simp; omega) _).drew, (HB.out.setCell (Nat.le_refl _) _).drew⟩
              case measure => simp [intOf]; omega)
          · obtain rfl : j = c := by omega
            have hr' : BR wr wv.heap.size 5 wv.heap.size s.size cap (bytesV (xorTo key.data.toList nonce.data.toList s.data.toList (64 * (m + 1)))) := by
              rcases hc3.out with h | h
              · rw [show 64 * (m + 1) = 64 * m + j by omega]; exact hr
              · rw [xorTo_more _ _ _ _ (by omega)]
                rw [xorTo_more _ _ _ _ (by omega)] at hr
                exact hr
            have HR := hide hr'
            have HB := hide hb
            clear hr hr' hO hb hc3
            go_wp2
            go_roundw
            case rel => exact ⟨m + 1, by omega, by go_num, HR.out, HB.out⟩
            case measure => simp [intOf]; omega
    · rw [xorTo_more _ _ _ _ (by omega)] at hr
      have x3 : ¬ ((64 * m : Nat) : Int) < (s.size : Int) := by omega
      generalize hX : xorL key.data.toList nonce.data.toList s.data.toList = X at hr
      have HX := hide hX
      clear hX Q2 P1 P2
      go_wp2_with ((with_reducible refine conv_out wv.heap.size s.size cap X ?_ hr ?_); rfl)
      go_ret2
      exact ⟨by rw [HX.out]; rfl, hb⟩
end Go.Proofs.YtdjpghgnjcmdnaaGreatDoor

/- Sealed texts: what the program's own tag, Seal and Open come to, for every key, nonce, with and text. -/
namespace Go.Proofs.YtdjpghgnjcmdnaaGreatDoor
open Go.RowKit
attribute [local go_sem ↓] Go.wp_at_zero Go.wp_at_succ
/-- A text taken together with a key's blocks; a mark; a tag. -/
def xorB (key nonce s : ByteArray) : ByteArray := ⟨(xorL key.data.toList nonce.data.toList s.data.toList).toArray⟩
def tagB (key nonce wi s : ByteArray) : ByteArray := markB 103 [key, nonce, wi, s]
theorem xorB_size (key nonce s : ByteArray) : (xorB key nonce s).size = s.size := xorTo_len _ _ _ _
theorem tagB_size (key nonce wi s : ByteArray) : (tagB key nonce wi s).size = 16 := markB_size _ _
/-- A text is its first sixteen bytes and the rest. -/
theorem head_rest (s : ByteArray) : s.extract 0 16 ++ s.extract 16 s.size = s := by
  rw [ByteArray.extract_append_extract]
  simp
theorem app_head (a b : ByteArray) (h : a.size = 16) : (a ++ b).extract 0 16 = a := by
  rw [← h]
  exact ByteArray.extract_append_eq_left rfl
theorem app_rest (a b : ByteArray) (h : a.size = 16) : (a ++ b).extract 16 (a ++ b).size = b := by
  rw [← h]
  exact ByteArray.extract_append_eq_right rfl (by simp)
/-- Four texts that lie side by side are the parts of a mark. -/
theorem parts4 {w : World} (b : Nat) (p q r s : ByteArray) (hb : b < w.heap.size) (h0 : w.cell? ⟨b, 0, none⟩ = some (.string p)) (h1 : w.cell? ⟨b, 1, none⟩ = some (.string q)) (h2 : w.cell? ⟨b, 2, none⟩ = some (.string r)) (h3 : w.cell? ⟨b, 3, none⟩ = some (.string s)) :
    Parts w (.slice (some ⟨b, 0, none⟩) 4 4) [p, q, r, s] := by
  refine ⟨_, 4, rfl, .inr ⟨b, 0, rfl, hb, fun k hk => ?_⟩⟩
  have hk' : k < 4 := hk
  match k, hk' with
  | 0, _ => exact h0
  | 1, _ => exact h1
  | 2, _ => exact h2
  | 3, _ => exact h3
theorem mark_four (b : Nat) (p q r s : ByteArray) (w : World) (hp : p.size ≤ 20000) (hq : q.size ≤ 20000) (hr : r.size ≤ 20000) (hs : s.size ≤ 20000) (hK : TabK w)
    (hb : b < w.heap.size) (h0 : w.cell? ⟨b, 0, none⟩ = some (.string p)) (h1 : w.cell? ⟨b, 1, none⟩ = some (.string q)) (h2 : w.cell? ⟨b, 2, none⟩ = some (.string r)) (h3 : w.cell? ⟨b, 3, none⟩ = some (.string s)) :
    Calls Tryz.prog 30 #[.int .u8 103, .slice (some ⟨b, 0, none⟩) 4 4] w fun e w' => e = .returned (.string (tagB p q r s)) ∧ Below w.heap.size w w' :=
  mark_any 103 _ [p, q, r, s] w (parts4 b p q r s hb h0 h1 h2 h3) (by simp) (by simp [hp, hq, hr, hs]) hK
set_option maxRecDepth 100000 in
set_option maxHeartbeats 400000 in
theorem tag_any (key nonce wi s : ByteArray) (w : World) (hk : key.size ≤ 20000) (hn : nonce.size ≤ 20000) (hw : wi.size ≤ 20000) (hs : s.size ≤ 20000) (hK : TabK w) :
    Calls Tryz.prog 204 #[.string key, .string nonce, .string wi, .string s] w fun e w' => e = .returned (.string (tagB key nonce wi s)) ∧ Below w.heap.size w w' := by
  have q := mark_four w.heap.size key nonce wi s (w.alloc (.cells #[.string key, .string nonce, .string wi, .string s] 299)) hk hn hw hs (hK.below ((Below.refl _ w).alloc (Nat.le_refl _) _) hK.lt) (by simp) (by simp) (by simp) (by simp) (by simp)
  have Q := hide q
  clear q
  go_enter Tryz.func204, Tryz.ntmps204
  go_wp2_with (go_at_call 30; (with_reducible refine Q.out.mono ?_); rintro e w1 ⟨rfl, hb1⟩)
  go_ret
  exact ⟨rfl, ((Below.refl _ w).alloc (Nat.le_refl _) _).trans (hb1.mono (by simp))⟩
set_option maxRecDepth 100000 in
set_option maxHeartbeats 400000 in
theorem seal_limit (key nonce wi s : ByteArray) (w : World) (h : 400 < s.size) :
    Calls Tryz.prog 153 #[.string key, .string nonce, .string wi, .string s] w fun e w' => e = .returned (.tuple #[.string ByteArray.empty, .iface 25 (.int .i64 4)]) ∧ w' = w := by
  have d : decide ((400 : Int) < (s.size : Int)) = true := decide_eq_true (by omega)
  go_enter Tryz.func153, Tryz.ntmps153
  go_wp2
  go_ret2
  exact ⟨rfl, rfl⟩
set_option maxRecDepth 100000 in
set_option maxHeartbeats 400000 in
theorem seal_arg (key nonce wi s : ByteArray) (w : World) (h : s.size ≤ 400) (hb : ¬ (key.size = 32 ∧ nonce.size = 12)) :
    Calls Tryz.prog 153 #[.string key, .string nonce, .string wi, .string s] w fun e w' => e = .returned (.tuple #[.string ByteArray.empty, .iface 25 (.int .i64 1)]) ∧ w' = w := by
  have d : decide ((400 : Int) < (s.size : Int)) = false := decide_eq_false (by omega)
  have Q := hide (xor_bad key nonce s w hb)
  go_enter Tryz.func153, Tryz.ntmps153
  go_wp2_with (go_at_call 203; (with_reducible refine Q.out.mono ?_); rintro e w1 ⟨rfl, rfl⟩)
  go_ret2
  exact ⟨rfl, rfl⟩
set_option maxRecDepth 100000 in
set_option maxHeartbeats 400000 in
theorem seal_ok (key nonce wi s : ByteArray) (w : World) (h : s.size ≤ 400) (hk : key.size = 32) (hn : nonce.size = 12) (hw : wi.size ≤ 20000) (hK : TabK w) :
    Calls Tryz.prog 153 #[.string key, .string nonce, .string wi, .string s] w fun e w' => e = .returned (.tuple #[.string (tagB key nonce wi (xorB key nonce s) ++ xorB key nonce s), .nilIface]) ∧ Below w.heap.size w w' := by
  have d : decide ((400 : Int) < (s.size : Int)) = false := decide_eq_false (by omega)
  have q1 : Calls Tryz.prog 203 #[.string key, .string nonce, .string s] w fun e w' => e = .returned (.tuple #[.string (xorB key nonce s), .nilIface]) ∧ Below w.heap.size w w' := xor_ok key nonce s w hk hn (by omega)
  have lx := xorB_size key nonce s
  obtain ⟨X, hX⟩ : ∃ X, X = xorB key nonce s := ⟨_, rfl⟩
  rw [← hX] at q1 lx ⊢
  have q2 := hide (fun wx hKx => tag_any key nonce wi X wx (by omega) (by omega) hw (by omega) hKx)
  have lt := tagB_size key nonce wi X
  generalize tagB key nonce wi X = T at q2 lt
  have Q1 := hide q1
  clear q1 hX
  go_enter Tryz.func153, Tryz.ntmps153
  go_wp2_with (first
    | (go_at_call 203; (with_reducible refine Q1.out.mono ?_); rintro e w1 ⟨rfl, hb1⟩; have hK1 := hK.below hb1 hK.lt)
    | (go_at_call 204; (with_reducible refine (q2.out _ hK1).mono ?_); rintro e w2 ⟨rfl, hb2⟩))
  go_ret2
  exact ⟨rfl, hb1.trans (hb2.mono hb1.size)⟩
set_option maxRecDepth 100000 in
set_option maxHeartbeats 400000 in
theorem open_arg (key nonce wi s : ByteArray) (w : World) (hb : ¬ (key.size = 32 ∧ nonce.size = 12)) :
    Calls Tryz.prog 210 #[.string key, .string nonce, .string wi, .string s] w fun e w' => e = .returned (.tuple #[.string ByteArray.empty, .iface 25 (.int .i64 1)]) ∧ w' = w := by
  by_cases h1 : key.size = 32
  · have h2 : ¬ nonce.size = 12 := fun h => hb ⟨h1, h⟩
    have d1 : ((key.size : Int) == 32) = true := by simp; omega
    have d2 : ((nonce.size : Int) == 12) = false := by simp; omega
    go_enter Tryz.func210, Tryz.ntmps210
    go_wp2
    go_ret2
    exact ⟨rfl, rfl⟩
  · have d1 : ((key.size : Int) == 32) = false := by simp; omega
    go_enter Tryz.func210, Tryz.ntmps210
    go_wp2
    go_ret2
    exact ⟨rfl, rfl⟩
set_option maxRecDepth 100000 in
set_option maxHeartbeats 400000 in
theorem open_size (key nonce wi s : ByteArray) (w : World) (hk : key.size = 32) (hn : nonce.size = 12) (hs : s.size < 16 ∨ 416 < s.size) :
    Calls Tryz.prog 210 #[.string key, .string nonce, .string wi, .string s] w fun e w' => e = .returned (.tuple #[.string ByteArray.empty, .iface 25 (.int .i64 15)]) ∧ w' = w := by
  have d1 : ((key.size : Int) == 32) = true := by simp; omega
  have d2 : ((nonce.size : Int) == 12) = true := by simp; omega
  by_cases h1 : s.size < 16
  · have d3 : decide ((s.size : Int) < 16) = true := decide_eq_true (by omega)
    go_enter Tryz.func210, Tryz.ntmps210
    go_wp2
    go_ret2
    exact ⟨rfl, rfl⟩
  · have d3 : decide ((s.size : Int) < 16) = false := decide_eq_false (by omega)
    have d4 : decide ((416 : Int) < (s.size : Int)) = true := decide_eq_true (by omega)
    go_enter Tryz.func210, Tryz.ntmps210
    go_wp2
    go_ret2
    exact ⟨rfl, rfl⟩
set_option maxRecDepth 100000 in
set_option maxHeartbeats 400000 in
theorem open_tag (key nonce wi s : ByteArray) (w : World) (hk : key.size = 32) (hn : nonce.size = 12) (hw : wi.size ≤ 20000) (h0 : 16 ≤ s.size) (h1 : s.size ≤ 416) (hK : TabK w) (ht : s.extract 0 16 ≠ tagB key nonce wi (s.extract 16 s.size)) :
    Calls Tryz.prog 210 #[.string key, .string nonce, .string wi, .string s] w fun e w' => e = .returned (.tuple #[.string ByteArray.empty, .iface 25 (.int .i64 15)]) ∧ Below w.heap.size w w' := by
  have d1 : ((key.size : Int) == 32) = true := by simp; omega
  have d2 : ((nonce.size : Int) == 12) = true := by simp; omega
  have d3 : decide ((s.size : Int) < 16) = false := decide_eq_false (by omega)
  have d4 : decide ((416 : Int) < (s.size : Int)) = false := decide_eq_false (by omega)
  have q2 := hide (fun wx hKx => tag_any key nonce wi (s.extract 16 s.size) wx (by omega) (by omega) hw (by rw [ByteArray.size_extract]; omega) hKx)
  generalize tagB key nonce wi (s.extract 16 s.size) = T at q2 ht
  have d5 := lists_ne ht
  have hKd : TabK w.drew := hK.below (Below.refl _ w).drew hK.lt
  go_enter Tryz.func210, Tryz.ntmps210
  go_wp2
  go_region
  all_goals (
    go_wp2_with (go_at_call 204; (with_reducible refine (q2.out _ hKd).mono ?_); rintro e w2 ⟨rfl, hb2⟩)
    go_ret2
    exact ⟨rfl, (Below.refl _ w).drew.trans hb2⟩)
set_option maxRecDepth 100000 in
set_option maxHeartbeats 400000 in
theorem open_ok (key nonce wi s : ByteArray) (w : World) (hk : key.size = 32) (hn : nonce.size = 12) (hw : wi.size ≤ 20000) (h0 : 16 ≤ s.size) (h1 : s.size ≤ 416) (hK : TabK w) (ht : s.extract 0 16 = tagB key nonce wi (s.extract 16 s.size)) :
    Calls Tryz.prog 210 #[.string key, .string nonce, .string wi, .string s] w fun e w' => e = .returned (.tuple #[.string (xorB key nonce (s.extract 16 s.size)), .nilIface]) ∧ Below w.heap.size w w' := by
  have d1 : ((key.size : Int) == 32) = true := by simp; omega
  have d2 : ((nonce.size : Int) == 12) = true := by simp; omega
  have d3 : decide ((s.size : Int) < 16) = false := decide_eq_false (by omega)
  have d4 : decide ((416 : Int) < (s.size : Int)) = false := decide_eq_false (by omega)
  have hKd : TabK w.drew := hK.below (Below.refl _ w).drew hK.lt
  have q2 := hide (fun wx hKx => tag_any key nonce wi (s.extract 16 s.size) wx (by omega) (by omega) hw (by rw [ByteArray.size_extract]; omega) hKx)
  rw [← ht] at q2
  have q1 : ∀ wx, Calls Tryz.prog 203 #[.string key, .string nonce, .string (s.extract 16 s.size)] wx fun e w' => e = .returned (.tuple #[.string (xorB key nonce (s.extract 16 s.size)), .nilIface]) ∧ Below wx.heap.size wx w' := fun wx => xor_ok key nonce (s.extract 16 s.size) wx hk hn (by rw [ByteArray.size_extract]; omega)
  generalize xorB key nonce (s.extract 16 s.size) = X at q1
  have Q1 := hide q1
  clear q1 ht
  go_enter Tryz.func210, Tryz.ntmps210
  go_wp2
  go_region
  all_goals (
    go_wp2_with (first
      | (go_at_call 204; (with_reducible refine (q2.out _ hKd).mono ?_); rintro e w2 ⟨rfl, hb2⟩)
      | (go_at_call 203; (with_reducible refine (Q1.out _).mono ?_); rintro e w3 ⟨rfl, hb3⟩))
    go_ret2
    exact ⟨rfl, (Below.refl _ w).drew.trans (hb2.trans (hb3.mono hb2.size))⟩)
end Go.Proofs.YtdjpghgnjcmdnaaGreatDoor
