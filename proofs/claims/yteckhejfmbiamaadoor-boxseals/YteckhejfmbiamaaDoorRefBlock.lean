/- The document's own block comes to the same bytes. -/
import Derived.Test.YteckhejfmbiamaaDoorRefMix
namespace Go.Proofs.YteckhejfmbiamaaDoor
open Go.RowKit
attribute [local go_sem] N_addm
attribute [local go_sem ↓] Go.wp_at_zero Go.wp_at_succ
set_option maxRecDepth 100000 in
theorem in_any (n l h : Int) (w : World) :
    Calls Tryd.prog 39 #[.int .i64 n, .int .i64 l, .int .i64 h] w fun e w' => e = .returned (.bool (decide (l ≤ n) && decide (n ≤ h))) ∧ w' = w := by
  by_cases h1 : l ≤ n
  · have d1 : decide (l ≤ n) = true := by simp; omega
    by_cases h2 : n ≤ h
    · have d2 : decide (n ≤ h) = true := by simp; omega
      go_enter Tryd.func39, Tryd.ntmps39
      go_wp2
      go_ret
      exact ⟨ret_val (by simp [h1, h2]), rfl⟩
    · have d2 : decide (n ≤ h) = false := by simp; omega
      go_enter Tryd.func39, Tryd.ntmps39
      go_wp2
      go_ret
      exact ⟨ret_val rfl, rfl⟩
  · have d1 : decide (l ≤ n) = false := by simp; omega
    go_enter Tryd.func39, Tryd.ntmps39
    go_wp2
    go_ret
    exact ⟨ret_val rfl, rfl⟩
set_option maxRecDepth 100000 in
set_option maxHeartbeats 400000 in
theorem refBlock_bad (key nonce : ByteArray) (n : Int) (w : World) (hb : ¬ (key.size = 32 ∧ nonce.size = 12 ∧ 0 ≤ n ∧ n < 4294967296)) :
    Calls Tryd.prog 18 #[.string key, .int .i64 n, .string nonce] w fun e w' => e = .returned (.tuple #[.string ByteArray.empty, .int .i64 1]) ∧ w' = w := by
  by_cases h1 : key.size = 32
  · have d1 : decide ((key.size : Int) = 32) = true := by simp; omega
    by_cases h2 : nonce.size = 12
    · have d2 : decide ((nonce.size : Int) = 12) = true := by simp; omega
      have h3 : ¬ (0 ≤ n ∧ n < 4294967296) := by intro h; exact hb ⟨h1, h2, h⟩
      have q := in_any n 0 4294967295 w
      rw [show (decide (0 ≤ n) && decide (n ≤ 4294967295)) = false by rw [Bool.eq_false_iff]; simp; omega] at q
      have Q1 := hide q
      clear q hb h3
      go_enter Tryd.func18, Tryd.ntmps18
      go_wp2_with (go_at_call 39; refine Q1.out.mono ?_; rintro e w1 ⟨rfl, rfl⟩)
      go_ret2
      exact ⟨rfl, rfl⟩
    · have d2 : decide ((nonce.size : Int) = 12) = false := by simp; omega
      clear hb
      go_enter Tryd.func18, Tryd.ntmps18
      go_wp2
      go_ret2
      exact ⟨rfl, rfl⟩
  · have d1 : decide ((key.size : Int) = 32) = false := by simp; omega
    clear hb
    go_enter Tryd.func18, Tryd.ntmps18
    go_wp2
    go_ret2
    exact ⟨rfl, rfl⟩
/-- So many rounds, the even ones of columns, the others of diagonals. -/
def oneTo (L : List (BitVec 32)) (k i : Nat) : List (BitVec 32) := if k % 2 = 0 then colTo L i else diaTo L i
theorem oneTo_even (L : List (BitVec 32)) (k i : Nat) (h : k % 2 = 0) : oneTo L k i = colTo L i := if_pos h
theorem oneTo_odd (L : List (BitVec 32)) (k i : Nat) (h : k % 2 = 1) : oneTo L k i = diaTo L i := if_neg (by omega)
theorem oneTo_zero (L : List (BitVec 32)) (k : Nat) : oneTo L k 0 = L := by unfold oneTo; split <;> rfl
def halfTo (L : List (BitVec 32)) : Nat → List (BitVec 32)
  | 0 => L
  | k + 1 => oneTo (halfTo L k) k 4
theorem oneTo_col (L : List (BitVec 32)) (k i : Nat) (h : k % 2 = 0) : oneTo L k (i + 1) = qr (oneTo L k i) i (4 + i) (8 + i) (12 + i) := by
  rw [oneTo_even _ _ _ h, oneTo_even _ _ _ h]; rfl
theorem oneTo_dia (L : List (BitVec 32)) (k i : Nat) (h : k % 2 = 1) : oneTo L k (i + 1) = qr (oneTo L k i) i (4 + (i + 1) % 4) (8 + (i + 2) % 4) (12 + (i + 3) % 4) := by
  rw [oneTo_odd _ _ _ h, oneTo_odd _ _ _ h]; rfl
theorem mix_col (base g cap : Nat) (L : List (BitVec 32)) (k : Nat) (hk : k < 4) (w : World) (h : BR w base 49 g 16 cap (wordsV L)) :
    Calls Tryd.prog 41 #[.slice (some ⟨g, 0, none⟩) 16 cap, .agg #[.int .i64 (k : Int), .int .i64 (4 + (k : Int)), .int .i64 (8 + (k : Int)), .int .i64 (12 + (k : Int))]] w fun e w' => e = .returned (.tuple #[]) ∧ BR w' base 49 g 16 cap (wordsV (qr L k (4 + k) (8 + k) (12 + k))) ∧ Grew g w w' :=
  refMix_any base g cap L k (4 + k) (8 + k) (12 + k) (by omega) (by omega) (by omega) (by omega) w h
theorem mix_dia (base g cap : Nat) (L : List (BitVec 32)) (k : Nat) (hk : k < 4) (w : World) (h : BR w base 49 g 16 cap (wordsV L)) :
    Calls Tryd.prog 41 #[.slice (some ⟨g, 0, none⟩) 16 cap, .agg #[.int .i64 (k : Int), .int .i64 (4 + ((k : Int) + 1) % 4), .int .i64 (8 + ((k : Int) + 2) % 4), .int .i64 (12 + ((k : Int) + 3) % 4)]] w fun e w' => e = .returned (.tuple #[]) ∧ BR w' base 49 g 16 cap (wordsV (qr L k (4 + (k + 1) % 4) (8 + (k + 2) % 4) (12 + (k + 3) % 4))) ∧ Grew g w w' :=
  refMix_any base g cap L k (4 + (k + 1) % 4) (8 + (k + 2) % 4) (12 + (k + 3) % 4) (by omega) (by omega) (by omega) (by omega) w h
theorem halfTo_even (L : List (BitVec 32)) (j : Nat) : halfTo L (2 * j) = dblTo L j := by
  induction j with
  | zero => rfl
  | succ j ih =>
    show oneTo (oneTo (halfTo L (2 * j)) (2 * j) 4) (2 * j + 1) 4 = dbl (dblTo L j)
    rw [ih, oneTo_even _ (2 * j) 4 (by omega), oneTo_odd _ (2 * j + 1) 4 (by omega)]
    rfl
theorem wordAt_app (a b : List UInt8) (m k : Nat) (h : a.length = 4 * m) : lwordAt (a ++ b) (m + k) = lwordAt b k := by
  unfold lwordAt
  have e : ∀ j, (a ++ b).getD (4 * (m + k) + j) 0 = b.getD (4 * k + j) 0 := by
    intro j
    rw [List.getD_eq_getElem?_getD, List.getD_eq_getElem?_getD, List.getElem?_append_right (by omega)]
    congr 2
    omega
  have e0 := e 0
  simp only [Nat.add_zero] at e0
  rw [e0, e 1, e 2, e 3]
theorem wordAt_pre (a b : List UInt8) (k : Nat) (h : 4 * k + 4 ≤ a.length) : lwordAt (a ++ b) k = lwordAt a k := by
  unfold lwordAt
  have e : ∀ j, j < 4 → (a ++ b).getD (4 * k + j) 0 = a.getD (4 * k + j) 0 := by
    intro j hj
    rw [List.getD_eq_getElem?_getD, List.getD_eq_getElem?_getD, List.getElem?_append_left (by omega)]
  have e0 := e 0 (by omega)
  simp only [Nat.add_zero] at e0
  rw [e0, e 1 (by omega), e 2 (by omega), e 3 (by omega)]
theorem words_first (key : List UInt8) (n : BitVec 32) (nonce : List UInt8) : wordsTo (sigma ++ key) 12 ++ [n] ++ wordsTo nonce 3 = first key n nonce := by
  have e : wordsTo (sigma ++ key) 12 = (List.range 4).map (lwordAt sigma) ++ (List.range 8).map (lwordAt key) := by
    unfold wordsTo
    have e1 : List.range 12 = List.range 4 ++ (List.range 8).map (4 + ·) := by decide
    have e2 : (List.range 4).map (lwordAt (sigma ++ key)) = (List.range 4).map (lwordAt sigma) := by
      apply List.map_congr_left
      intro k hk
      rw [List.mem_range] at hk
      exact wordAt_pre sigma key k (by show 4 * k + 4 ≤ 16; omega)
    have e3 : ((List.range 8).map (4 + ·)).map (lwordAt (sigma ++ key)) = (List.range 8).map (lwordAt key) := by
      rw [List.map_map]
      apply List.map_congr_left
      intro k _
      exact wordAt_app sigma key 4 k rfl
    rw [e1, List.map_append, e2, e3]
  rw [e]
  unfold first wordsTo
  simp
theorem str_sigma (key : ByteArray) : ((⟨#[101, 120, 112, 97, 110, 100, 32, 51, 50, 45, 98, 121, 116, 101, 32, 107]⟩ : ByteArray) ++ key).data.toList = sigma ++ key.data.toList := by
  rw [ByteArray.data_append]; simp [sigma]
theorem news_br {w : World} {base : Nat} {e : TypeId} {g n cap : Nat} {xs : List Value} (h : BR w base e g n cap xs) : ∀ (j : Nat) (u : Value), xs[j]? = some u → w.cell? ((⟨g, 0, none⟩ : Addr).add j) = some u := by
  intro j u hj
  have hjn : j < n := by
    rw [← h.len]
    exact (List.getElem?_eq_some_iff.1 hj).1
  rw [Addr.add_lit, Nat.zero_add, h.cell j hjn]; exact hj
theorem lbytes4_step (y : BitVec 32) (q : Nat) (h : q < 4) : (lbytes4 y).take q ++ [UInt8.ofNat (y.toNat / 256 ^ q)] = (lbytes4 y).take (q + 1) := by
  match q, h with
  | 0, _ => simp [lbytes4]
  | 1, _ => simp [lbytes4]
  | 2, _ => simp [lbytes4]
  | 3, _ => simp [lbytes4]
theorem str_step (A B C : List UInt8) (c : UInt8) (h : B ++ [c] = C) : Value.string ((⟨(A ++ B).toArray⟩ : ByteArray) ++ ⟨[c].toArray⟩) = .string ⟨(A ++ C).toArray⟩ := by
  rw [bytes_app, ← h]; simp
set_option maxRecDepth 100000 in
set_option maxHeartbeats 2000000 in
theorem refBlock_ok (key nonce : ByteArray) (n : Nat) (w : World) (hk : key.size = 32) (hn : nonce.size = 12) (h1 : n < 4294967296) :
    Calls Tryd.prog 18 #[.string key, .int .i64 n, .string nonce] w fun e w' => e = .returned (.tuple #[.string ⟨(blockL key.data.toList (BitVec.ofNat 32 n) nonce.data.toList).toArray⟩, .int .i64 0]) ∧ Below w.heap.size w w' := by
  obtain ⟨i41, hE⟩ := elemW
  have d1 : decide ((key.size : Int) = 32) = true := by simp; omega
  have d2 : decide ((nonce.size : Int) = 12) = true := by simp; omega
  have q := in_any n 0 4294967295 w
  rw [show (decide ((0 : Int) ≤ (n : Int)) && decide ((n : Int) ≤ 4294967295)) = true by simp; omega] at q
  have Q1 := hide q
  clear q
  have Q2 := fun wx => words_any ((⟨#[101, 120, 112, 97, 110, 100, 32, 51, 50, 45, 98, 121, 116, 101, 32, 107]⟩ : ByteArray) ++ key) 12 (by rw [ByteArray.size_append, hk]; rfl) (by omega) (by omega) wx
  rw [str_sigma] at Q2
  have Q3 := fun wx => words_any nonce 3 (by omega) (by omega) (by omega) wx
  have hF := words_first key.data.toList (BitVec.ofNat 32 n) nonce.data.toList
  have hO : blockL key.data.toList (BitVec.ofNat 32 n) nonce.data.toList = outTo (dblTo (first key.data.toList (BitVec.ofNat 32 n) nonce.data.toList) 10) (first key.data.toList (BitVec.ofNat 32 n) nonce.data.toList) 16 := rfl
  have l1 := wordsTo_len (sigma ++ key.data.toList) 12
  have l3 := wordsTo_len nonce.data.toList 3
  have hN := N_ofNat n h1
  have d3 : IntKind.u32.wrap (n : Int) = (n : Int) := by rw [IntKind.wrap_u32']; omega
  generalize blockL key.data.toList (BitVec.ofNat 32 n) nonce.data.toList = O at hO ⊢
  generalize first key.data.toList (BitVec.ofNat 32 n) nonce.data.toList = F at hF hO
  generalize wordsTo (sigma ++ key.data.toList) 12 = A at Q2 hF l1
  generalize wordsTo nonce.data.toList 3 = C at Q3 hF l3
  generalize BitVec.ofNat 32 n = x at hF hN
  have HO := hide hO
  have HF := hide hF
  have H2 := hide Q2
  have H3 := hide Q3
  clear hO hF Q2 Q3
  go_enter Tryd.func18, Tryd.ntmps18
  go_upto_region 3 with (first
    | (go_at_call 39; refine Q1.out.mono ?_; rintro e w0 ⟨rfl, rfl⟩))
  clear Q1
  go_cut [8] (fun v wx => ∃ g cap, v = .slice (some ⟨g, 0, none⟩) 12 cap ∧ BR wx w0.heap.size 49 g 12 cap (wordsV A) ∧ Below w0.heap.size w0 wx)
  case first =>
    go_wp2_with (first
      | (go_at_call 40; refine (H2.out _).mono ?_; rintro e w1 ⟨g1, cap1, rfl, hr1, hb1⟩))
    go_meet
    case rel => exact ⟨g1, cap1, rfl, hr1, hb1⟩
  case rest =>
    obtain ⟨g1, cap1, rfl, hr1, hb1⟩ := hcut
    have hs1 := hb1.size
    have hlF : F.length = 16 := by rw [← HF.out]; simp [l1, l3]
    have hvF : wordsV A ++ [.int .u32 (n : Int)] ++ wordsV C = wordsV F := by rw [← HF.out, wordsV_app, wordsV_app, ← hN]; rfl
    have HVF := hide hvF
    clear hvF
    go_upto_region 4 with fail
    go_cut [8] (fun v wx => ∃ g cap, v = .slice (some ⟨g, 0, none⟩) 16 cap ∧ BR wx w0.heap.size 49 g 16 cap (wordsV F) ∧ Below w0.heap.size w0 wx)
    case first =>
      go_wp2_with (first
        | (at_builtin; refine append_br 49 hE w0.heap.size _ 12 (wordsV A) ⟨wc.heap.size, 0, none⟩ 1 1 [.int .u32 (n : Int)] rfl rfl ((BRn.of hr1).alloc _) rfl (by omega) (news_one _ _) (one_u32 _) (by omega) (by simp; omega) ?_; intro g2 cap2 w2 hr2 hg2 hl2 hb2)
        | (go_at_call 40; refine (H3.out _).mono ?_; rintro e w3 ⟨g3, cap3, rfl, hr3, hb3⟩; have hr2' := hr2.below hb3 hr2.lt; have hs2 := hb2.size; simp at hs2; have hs3 := hb3.size)
        | (at_builtin; refine append_br 49 hE w0.heap.size _ 13 (wordsV A ++ [.int .u32 (n : Int)]) ⟨g3, 0, none⟩ 3 cap3 (wordsV C) rfl rfl (BRn.of hr2') (by rw [wordsV_len, l3]) (by omega) (news_br hr3) (wordsV_one _) (by omega) (by omega) ?_; intro g4 cap4 w4 hr4 hg4 hl4 hb4; rw [HVF.out] at hr4))
      go_meet
      case rel => exact ⟨g4, cap4, rfl, hr4, hb1.trans (((Below.refl _ _).alloc hs1 _).trans (hb2.trans ((hb3.mono (by omega)).trans hb4)))⟩
    case rest =>
      clear hr1 hb1 hs1 H2 H3 HVF
      obtain ⟨gS, capS, rfl, hS, hb1⟩ := hcut
      have hs1 := hb1.size
      go_upto_region 5 with fail
      go_cut [9] (fun v wx => ∃ g cap, v = .slice (some ⟨g, 0, none⟩) 16 cap ∧ gS < g ∧ BR wx w0.heap.size 49 g 16 cap (wordsV F) ∧ BR wx w0.heap.size 49 gS 16 capS (wordsV F) ∧ Below w0.heap.size w0 wx)
      case first =>
        have hS' := hS.alloc (.cells #[] 49)
        have hr0 : BR (wc.alloc (.cells #[] 49)) wc.heap.size 49 wc.heap.size 0 0 [] := ⟨rfl, Nat.le_refl _, Nat.le_refl _, #[], (0, 0), heap_alloc_new wc _, rfl, rfl, .inl (Nat.le_refl _)⟩
        have hlS := hS.lt
        go_wp2_with (first
          | (at_builtin; refine append_br 49 hE wc.heap.size _ 0 [] ⟨gS, 0, none⟩ 16 capS (wordsV F) rfl rfl (BRn.of hr0) (by rw [wordsV_len, hlF]) (by omega) (news_br hS') (wordsV_one _) (by omega) (by simp) ?_; intro gT capT w5 hT hgT hlT hbT))
        go_meet
        case rel => exact ⟨gT, capT, rfl, by have := hT.base; omega, hT.mono hs1, hS'.below hbT hlS, hb1.trans (((Below.refl _ _).alloc hs1 _).trans (hbT.mono hs1))⟩
      case rest =>
        clear hS hb1 hs1
        obtain ⟨gT, capT, rfl, hST, hT, hS, hb1⟩ := hcut
        go_wp2
        go_loopw [43] (fun i wr => ∃ k : Nat, k ≤ 20 ∧ i = .int .i64 k ∧ BR wr w0.heap.size 49 gT 16 capT (wordsV (halfTo F k)) ∧ BR wr w0.heap.size 49 gS 16 capS (wordsV F) ∧ Below w0.heap.size w0 wr)
          (fun i _ => 20 - (intOf i).toNat)
        case atStart => exact ⟨0, by omega, rfl, hT, hS, hb1⟩
        case round =>
          clear hT hS hb1
          obtain ⟨k, hk', rfl, hT, hS, hb⟩ := hrel
          by_cases hlt : k < 20
          · have hkb : decide ((k : Int) < 20) = true := by simp; omega
            have hH : halfTo F (k + 1) = oneTo (halfTo F k) k 4 := rfl
            generalize halfTo F k = H at hT hH
            have HH := hide hH
            clear hH
            go_wp2
            go_loopw [46] (fun i wx => ∃ j : Nat, j ≤ 4 ∧ i = .int .i64 j ∧ BR wx w0.heap.size 49 gT 16 capT (wordsV (oneTo H k j)) ∧ BR wx w0.heap.size 49 gS 16 capS (wordsV F) ∧ Below w0.heap.size w0 wx)
              (fun i _ => 4 - (intOf i).toNat)
            case atStart => exact ⟨0, by omega, rfl, by rw [oneTo_zero]; exact hT, hS, hb⟩
            case round =>
              clear hT hS hb hkb
              obtain ⟨j, hj, rfl, hT, hS, hb⟩ := hrel
              by_cases hj4 : j < 4
              · by_cases hpar : k % 2 = 1
                · have p1 : ((k : Int) % 2) = 1 := by omega
                  have HO1 := hide (oneTo_dia H k j hpar)
                  have HT := hide hT
                  have HS := hide hS
                  have HB := hide hb
                  have hbs := hb.size
                  have hgT := hT.lt
                  have hgTb := hT.base
                  have hgS := hS.lt
                  clear hT hS hb hpar
                  generalize oneTo H k j = L at HO1 HT
                  go_wp2_with (first | (go_at_call 41; refine (mix_dia w0.heap.size gT capT L j hj4 _ (HT.out.alloc _)).mono ?_; rintro e w6 ⟨rfl, hT6, hG6⟩; have hS6 := hG6.br (HS.out.alloc _) (by omega); have hb6 : Below w0.heap.size w0 w6 := (HB.out.alloc hbs _).trans (hG6.below hgTb (by simp; omega))))
                  go_roundw
                  case rel =>
                    first
                      | exact ⟨j + 1, by omega, by go_num, by rw [HO1.out]; exact hT6, hS6, hb6⟩
                      | ((repeat apply Exists.intro); exact ⟨⟨j + 1, by omega, by go_num, by rw [HO1.out]; exact hT6, hS6, hb6⟩, rfl⟩)
                  case measure => simp [intOf]; omega
                · have p1 : ¬ ((k : Int) % 2) = 1 := by omega
                  have HO1 := hide (oneTo_col H k j (by omega))
                  have HT := hide hT
                  have HS := hide hS
                  have HB := hide hb
                  have hbs := hb.size
                  have hgT := hT.lt
                  have hgTb := hT.base
                  have hgS := hS.lt
                  clear hT hS hb hpar
                  generalize oneTo H k j = L at HO1 HT
                  go_wp2_with (first | (go_at_call 41; refine (mix_col w0.heap.size gT capT L j hj4 _ (HT.out.alloc _)).mono ?_; rintro e w6 ⟨rfl, hT6, hG6⟩; have hS6 := hG6.br (HS.out.alloc _) (by omega); have hb6 : Below w0.heap.size w0 w6 := (HB.out.alloc hbs _).trans (hG6.below hgTb (by simp; omega))))
                  go_roundw
                  case rel =>
                    first
                      | exact ⟨j + 1, by omega, by go_num, by rw [HO1.out]; exact hT6, hS6, hb6⟩
                      | ((repeat apply Exists.intro); exact ⟨⟨j + 1, by omega, by go_num, by rw [HO1.out]; exact hT6, hS6, hb6⟩, rfl⟩)
                  case measure => simp [intOf]; omega
              · obtain rfl : j = 4 := by omega
                rw [← HH.out] at hT
                have HT := hide hT
                have HS := hide hS
                have HB := hide hb
                clear hT hS hb HH
                go_wp2
                go_roundw
                case rel =>
                  first
                    | exact ⟨k + 1, by omega, by go_num, HT.out, HS.out, HB.out⟩
                    | ((repeat apply Exists.intro); exact ⟨⟨k + 1, by omega, by go_num, HT.out, HS.out, HB.out⟩, rfl⟩)
                case measure => simp [intOf]; omega
          · obtain rfl : k = 20 := by omega
            have hH : halfTo F 20 = dblTo F 10 := halfTo_even F 10
            rw [hH] at hT
            have hO := HO.out
            generalize dblTo F 10 = W at hT hO
            have HO2 := hide hO
            clear hO HO hH HF hlt hk'
            have hlW : W.length = 16 := by have := hT.len; rwa [wordsV_len] at this
            go_wp2
            go_loopw [13, 81] (fun o i wr => ∃ k : Nat, k ≤ 16 ∧ i = .int .i64 k ∧ o = .string ⟨(outTo W F k).toArray⟩ ∧ BR wr w0.heap.size 49 gT 16 capT (wordsV W) ∧ BR wr w0.heap.size 49 gS 16 capS (wordsV F) ∧ Below w0.heap.size w0 wr)
              (fun _ i _ => 16 - (intOf i).toNat)
            case atStart => exact ⟨0, by omega, rfl, rfl, hT, hS, hb⟩
            case round =>
              clear hT hS hb
              obtain ⟨k, hk', rfl, rfl, hT, hS, hb⟩ := hrel
              by_cases hlt : k < 16
              · have hkb : decide ((k : Int) < 16) = true := by simp; omega
                have ik : (k : Int) < 16 := by omega
                have cT := hT.cellW k (by omega)
                have cS := hS.cellW k (by omega)
                have hO1 := outTo_succ W F k
                have hO2 := outTo_len W F k
                have hab := N_addm (wd W k) (wd F k)
                generalize wd W k = y1 at cT hO1 hab
                generalize wd F k = y2 at cS hO1 hab
                generalize outTo W F k = P at hO1 hO2 ⊢
                have HO1 := hide hO1
                have HT := hide hT
                have HS := hide hS
                have HB := hide hb
                clear hT hS hb hO1
                go_upto_region 22 with fail
                go_cut [15] (fun v wx => v = .int .u32 (N (y1 + y2)) ∧ wx = wr.drew)
                case first =>
                  go_region
                  all_goals (
                    go_wp2
                    go_meet
                    case rel => exact ⟨by rw [← hab], rfl⟩)
                case rest =>
                  obtain ⟨rfl, rfl⟩ := hcut
                  clear cT cS hab
                  generalize y1 + y2 = y at HO1 ⊢
                  have hN0 : N y = ((y.toNat / 256 ^ 0 : Nat) : Int) := by simp [N]
                  have hP0 : Value.string ⟨P.toArray⟩ = .string ⟨(P ++ (lbytes4 y).take 0).toArray⟩ := by simp
                  rw [hN0, hP0]
                  clear hN0 hP0
                  go_wp2
                  go_loopw [13, 15, 93] (fun o x j wx => ∃ q : Nat, q ≤ 4 ∧ j = .int .i64 q ∧ x = .int .u32 ((y.toNat / 256 ^ q : Nat) : Int) ∧ o = .string ⟨(P ++ (lbytes4 y).take q).toArray⟩ ∧ BR wx w0.heap.size 49 gT 16 capT (wordsV W) ∧ BR wx w0.heap.size 49 gS 16 capS (wordsV F) ∧ Below w0.heap.size w0 wx)
                    (fun _ _ j _ => 4 - (intOf j).toNat)
                  case atStart => exact ⟨0, by omega, rfl, rfl, rfl, HT.out.drew, HS.out.drew, HB.out.drew⟩
                  case round =>
                    clear HT HS HB
                    obtain ⟨q, hq, rfl, rfl, rfl, hT, hS, hb⟩ := hrel
                    have hyl := y.isLt
                    by_cases hq4 : q < 4
                    · have hst := hide (str_step P _ _ _ (lbytes4_step y q hq4))
                      have hu : y.toNat / 256 ^ q < 4294967296 := Nat.lt_of_le_of_lt (Nat.div_le_self _ _) hyl
                      have hdiv := hide (show y.toNat / 256 ^ (q + 1) = y.toNat / 256 ^ q / 256 by rw [Nat.pow_succ, Nat.div_div_eq_div_mul])
                      generalize y.toNat / 256 ^ q = u at hst hu hdiv ⊢
                      have hlen : (P ++ (lbytes4 y).take q).length ≤ 100 := by rw [List.length_append, List.length_take, hO2]; omega
                      generalize P ++ (lbytes4 y).take q = R at hst hlen ⊢
                      have HT := hide hT
                      have HS := hide hS
                      have HB := hide hb
                      have hbs := hb.size
                      clear hT hS hb
                      go_wp2_with ((with_reducible refine conv_out wr.heap.size 1 1 [UInt8.ofNat u] ?_ (br_one wr u) ?_); rfl)
                      go_roundw
                      case rel =>
                        (repeat apply Exists.intro)
                        refine ⟨⟨q + 1, by omega, ?_, ?_, ?_, HT.out.alloc _, HS.out.alloc _, HB.out.alloc hbs _⟩, rfl⟩
                        · go_num
                        · rw [hdiv.out]; simp
                        · rw [← hst.out]
                      case measure => simp [intOf]; omega
                    · obtain rfl : q = 4 := by omega
                      have e4 : (lbytes4 y).take 4 = lbytes4 y := rfl
                      rw [e4]
                      rw [← HO1.out]
                      have HT := hide hT
                      have HS := hide hS
                      have HB := hide hb
                      clear hT hS hb HO1 e4
                      generalize hR : outTo W F (k + 1) = R
                      have HR := hide hR
                      clear hR
                      go_wp2
                      go_roundw
                      case rel =>
                        first
                          | exact ⟨k + 1, by omega, by go_num, by rw [HR.out], HT.out, HS.out, HB.out⟩
                          | ((repeat apply Exists.intro); exact ⟨⟨k + 1, by omega, by go_num, by rw [HR.out], HT.out, HS.out, HB.out⟩, rfl⟩)
                      case measure => simp [intOf]; omega
              · obtain rfl : k = 16 := by omega
                have hO := HO2.out
                rw [← hO]
                clear HO2 hO
                have HB := hide hb
                clear hT hS hb
                go_wp2
                go_ret2
                exact ⟨rfl, HB.out⟩
end Go.Proofs.YteckhejfmbiamaaDoor
