/- Texts of this proof, one behind the other. -/
import Derived.Deep.RegionHeld3
import Derived.Deep.AppendLies
import Derived.Deep.RegionLaw
import Derived.Test.YtkbaalenbpgheaaGreatDoorPart18
/- A feed as it lies in memory; its head. -/
namespace Go.Proofs.YtkbaalenbpgheaaGreatDoor
open Go.RowKit
attribute [local go_sem ↓] Go.wp_at_zero Go.wp_at_succ
def recZ : Rec := ⟨0, ⟨#[]⟩, 0, ⟨#[]⟩, ⟨#[]⟩⟩
def recsL (rs : List Rec) : List Value := rs.flatMap recL
theorem recsL_snoc (rs : List Rec) (r : Rec) : recsL (rs ++ [r]) = recsL rs ++ recL r := by simp [recsL]
theorem recsL_at : ∀ (rs : List Rec) (j i : Nat), j < rs.length → i < 5 → (recsL rs)[j * 5 + i]? = (recL (rs.getD j recZ))[i]?
  | [], j, i, h, _ => by simp at h
  | r :: rs, 0, i, _, hi => by
    have e1 : recsL (r :: rs) = recL r ++ recsL rs := rfl
    rw [e1, Nat.zero_mul, Nat.zero_add, List.getElem?_append_left (by exact hi)]
    rfl
  | r :: rs, j + 1, i, h, hi => by
    have e1 : recsL (r :: rs) = recL r ++ recsL rs := rfl
    have ih := recsL_at rs j i (by simpa using h) hi
    have e2 : (j + 1) * 5 + i = 5 + (j * 5 + i) := by omega
    rw [e1, e2, List.getElem?_append_right (by simp [recL])]
    have e3 : (r :: rs).getD (j + 1) recZ = rs.getD j recZ := by simp
    rw [e3, ← ih]
    congr 1
    simp [recL]
/-- The mark of the last. -/
def headR (rs : List Rec) : ByteArray := if rs = [] then noneB else markR (rs.getD (rs.length - 1) recZ)
theorem headR_size (rs : List Rec) : (headR rs).size = 16 := by
  unfold headR
  split
  · exact noneB_size
  · exact markR_size _
/-- A feed: its vault, and a row of records of its own. -/
structure FeedV (w : World) (fb vb : Nat) (v : Value) (rs : List Rec) : Prop where
  row : HasR w fb 126 #[.pointer (some ⟨vb, 0, none⟩), v]
  own : w.ownsRow (fb + 1) 30 5 v rs.length (recsL rs)
theorem FeedV.turned {w w' : World} {fb vb : Nat} {v : Value} {rs : List Rec} {L : List Nat} (h : FeedV w fb vb v rs) (t : Stirred L w w') (h1 : fb ∉ L) (h2 : ∀ g, v.ownBlock = some g → g ∉ L) : FeedV w' fb vb v rs := by
  refine ⟨h.row.turned t h1, ⟨h.own.1, ?_⟩⟩
  rcases h.own.2 with e | ⟨g, cap, cur, hv, hb, hg, r⟩
  · exact .inl e
  · exact .inr ⟨g, cap, cur, hv, hb, (t.block g (lt_of_block hg) (h2 g (by rw [hv]; rfl))).trans hg, r⟩
theorem FeedV.below {w w' : World} {fb vb : Nat} {v : Value} {rs : List Rec} (h : FeedV w fb vb v rs) (k : Below w.heap.size w w') : FeedV w' fb vb v rs := h.turned (Stirred.of_below k []) (by simp) (fun _ _ => by simp)
theorem FeedV.slice {w : World} {fb vb : Nat} {v : Value} {rs : List Rec} (h : FeedV w fb vb v rs) : ∃ p c, v = .slice p rs.length c := by
  rcases h.own.2 with ⟨e, e0⟩ | ⟨g, cap, cur, hv, _⟩
  · exact ⟨_, _, by rw [e, e0]⟩
  · exact ⟨_, _, hv⟩
theorem FeedV.at {w : World} {fb vb n cap : Nat} {p : Option Addr} {rs : List Rec} {k : Nat} (h : FeedV w fb vb (.slice p n cap) rs) (hk : k < rs.length) : ∃ g, p = some ⟨g, 0, none⟩ ∧ g < w.heap.size ∧ rs.length ≤ cap ∧ w.cell? ⟨g, k * 5, none⟩ = some (.int .i64 ((rs.getD k recZ).q : Int)) ∧ w.cell? ⟨g, k * 5 + 1, none⟩ = some (.string (rs.getD k recZ).s) ∧ w.cell? ⟨g, k * 5 + 2, none⟩ = some (.int .i64 ((rs.getD k recZ).g : Int)) ∧ w.cell? ⟨g, k * 5 + 3, none⟩ = some (.string (rs.getD k recZ).p) ∧ w.cell? ⟨g, k * 5 + 4, none⟩ = some (.string (rs.getD k recZ).d) := by
  rcases h.own.2 with ⟨_, e0⟩ | ⟨g, cap', cur, hv, hb, hg, h1, h2, h3, h4⟩
  · omega
  · injection hv with e1 e2 e3
    subst e1 e3
    have f : ∀ i u, (recL (rs.getD k recZ))[i]? = some u → w.cell? ⟨g, k * 5 + i, none⟩ = some u := fun i u hu => by
      have hi : i < 5 := (List.getElem?_eq_some_iff.1 hu).1
      rw [cell_of_row w g _ cur 30 (0, 0) hg, ← Array.getElem?_toList, ← List.getElem?_take_of_lt (j := rs.length * 5) (by omega), h4, recsL_at rs k i hk hi]
      exact hu
    exact ⟨g, rfl, lt_of_block hg, h1, f 0 _ rfl, f 1 _ rfl, f 2 _ rfl, f 3 _ rfl, f 4 _ rfl⟩
theorem ptrF_nil (b : Nat) (w : World) : (binOp .eql 82 (.pointer (some ⟨b, 0, none⟩)) (.pointer none)).run Tryz.prog w = .ok (.bool false) w := by kernel_rfl
set_option maxRecDepth 100000 in
set_option maxHeartbeats 1000000 in
theorem head_any (w : World) (fb vb : Nat) (v : Value) (rs : List Rec) (h : FeedV w fb vb v rs) (hf : ∀ r ∈ rs, Fit r) (hl : rs.length ≤ 1000) (hK : TabK w) :
    Calls Tryz.prog 42 #[.pointer (some ⟨fb, 0, none⟩)] w fun e w' => e = .returned (.string (headR rs)) ∧ Below w.heap.size w w' := by
  have hq := ptrF_nil fb
  obtain ⟨p, c, rfl⟩ := h.slice
  have c1 : w.cell? ⟨fb, 1, none⟩ = some (.slice p rs.length c) := h.row.cell 1
  unfold headR
  by_cases h0 : rs = []
  · rw [if_pos h0]
    have e0 : rs.length = 0 := by rw [h0]; rfl
    rw [e0] at c1
    clear h
    go_enter Tryz.func42, Tryz.ntmps42
    go_wp2
    go_ret
    exact ⟨rfl, Below.refl _ _⟩
  · rw [if_neg h0]
    have hp : 0 < rs.length := List.length_pos_iff.2 h0
    obtain ⟨g, rfl, hg, hcap, x0, x1, x2, x3, x4⟩ := h.at (k := rs.length - 1) (by omega)
    have hm : rs.getD (rs.length - 1) recZ ∈ rs := by
      rw [List.getD_eq_getElem?_getD, List.getElem?_eq_getElem (by omega), Option.getD_some]
      exact List.getElem_mem _
    have M := hide (markRec_any (rs.getD (rs.length - 1) recZ) w.drew (hf _ hm) (hK.below (Below.refl _ w).drew hK.lt))
    generalize rs.getD (rs.length - 1) recZ = r at x0 x1 x2 x3 x4 M ⊢
    obtain ⟨k, hk⟩ : ∃ k, rs.length = k + 1 := ⟨rs.length - 1, by omega⟩
    rw [show rs.length - 1 = k by omega] at x0 x1 x2 x3 x4
    rw [hk] at c1 hcap hl
    have hz : (((k + 1 : Nat) : Int) == 0) = false := by simp; omega
    have hw1 : IntKind.i64.wrap (k : Int) = (k : Int) := by simp [IntKind.wrap, IntKind.bits, IntKind.signed]; omega
    have hk0 : (0 : Int) ≤ (k : Int) := by omega
    have hk1 : (k : Int) < (k : Int) + 1 := by omega
    have hk2 : (k : Int) ≤ (k : Int) + 1 := by omega
    have hfb : fb < w.heap.size := h.row.lt
    clear h hk h0 hm hp
    go_enter Tryz.func42, Tryz.ntmps42
    go_wp2
    go_region_held3 (fun wx => wx.cell? ⟨fb, 1, none⟩ = some (.slice (some ⟨g, 0, none⟩) (k + 1) c) ∧ wx.cell? ⟨g, k * 5, none⟩ = some (.int .i64 (r.q : Int)) ∧ wx.cell? ⟨g, k * 5 + 1, none⟩ = some (.string r.s) ∧ wx.cell? ⟨g, k * 5 + 2, none⟩ = some (.int .i64 (r.g : Int)) ∧ wx.cell? ⟨g, k * 5 + 3, none⟩ = some (.string r.p) ∧ wx.cell? ⟨g, k * 5 + 4, none⟩ = some (.string r.d)) (first | (with_reducible exact K1.out) | go_keep)
      ((go_at_call 65; (with_reducible refine M.out.mono ?_); rintro e w1 ⟨rfl, hb1⟩; have B1 := hide ((Below.refl w.heap.size w).drew.trans hb1); have K1 := hide (⟨(B1.out.cell hfb).trans c1, (B1.out.cell hg).trans x0, (B1.out.cell hg).trans x1, (B1.out.cell hg).trans x2, (B1.out.cell hg).trans x3, (B1.out.cell hg).trans x4⟩ : w1.cell? ⟨fb, 1, none⟩ = some (.slice (some ⟨g, 0, none⟩) (k + 1) c) ∧ w1.cell? ⟨g, k * 5, none⟩ = some (.int .i64 (r.q : Int)) ∧ w1.cell? ⟨g, k * 5 + 1, none⟩ = some (.string r.s) ∧ w1.cell? ⟨g, k * 5 + 2, none⟩ = some (.int .i64 (r.g : Int)) ∧ w1.cell? ⟨g, k * 5 + 3, none⟩ = some (.string r.p) ∧ w1.cell? ⟨g, k * 5 + 4, none⟩ = some (.string r.d)); clear hb1))
    go_wp2
    go_ret
    exact ⟨rfl, B1.out⟩
end Go.Proofs.YtkbaalenbpgheaaGreatDoor

/- How events are written: the program's own Print. -/
namespace Go.Proofs.YtkbaalenbpgheaaGreatDoor
open Go.RowKit
attribute [local go_sem ↓] Go.wp_at_zero Go.wp_at_succ
/-- The program's own table of kinds lies as its text lays it. -/
def layRow : Array Value := #[.string ⟨#[]⟩, .int .i64 0, .string ⟨#[112, 117, 116]⟩, .int .i64 5, .string ⟨#[100, 101, 108]⟩, .int .i64 4, .string ⟨#[103, 111, 110, 101]⟩, .int .i64 2]
def TabL (w : World) : Prop := HasR w 1 169 layRow
theorem TabL.lt {w : World} (h : TabL w) : 1 < w.heap.size := HasR.lt h
theorem TabL.below {w w' : World} {B : Nat} (h : TabL w) (hb : Below B w w') (hB : 1 < B) : TabL w' := HasR.below h hb hB
theorem textB_join (e : Ev) (l : List ByteArray) (h : Lib.join (l.map (·.data.toList)) [32] = printL e) : (⟨(Lib.join (l.map (·.data.toList)) [32]).toArray⟩ : ByteArray) = textB e := by rw [h]; rfl
theorem name_len {l : List UInt8} (h : nameB l = true) : l.length ≤ 10 := by
  unfold nameB at h
  simp only [Bool.and_eq_true, decide_eq_true_eq] at h
  exact h.1.2
theorem val_len {l : List UInt8} (h : valB l = true) : l.length ≤ 20 := by
  unfold valB at h
  simp only [Bool.and_eq_true, decide_eq_true_eq] at h
  exact h.1
theorem print_len {e : Ev} (h : rightB e = true) : (printL e).length ≤ 60 := by
  obtain ⟨hs, ⟨hk, ht, hr, hv⟩ | ⟨hk, ht, hr, hv⟩ | ⟨hk, ht, hr, hv⟩⟩ := right_kinds h
  · have h1 := name_len hs; have h2 := name_len ht; have h3 := name_len hr; have h4 := val_len hv
    unfold printL
    rw [if_pos hk]
    simp only [List.length_append, List.length_cons, wPut, List.length_nil]
    omega
  · have h1 := name_len hs; have h2 := name_len ht; have h3 := name_len hr
    unfold printL
    rw [if_neg (by omega), if_pos hk]
    simp only [List.length_append, List.length_cons, wDel, List.length_nil]
    omega
  · have h1 := name_len hs
    unfold printL
    rw [if_neg (by omega), if_neg (by omega)]
    simp only [List.length_append, List.length_cons, wGone, List.length_nil]
    omega
theorem join_put (s t r v : ByteArray) : Lib.join (([⟨#[112, 117, 116]⟩, s, t, r, v].take 5).map (·.data.toList)) [32] = printL ⟨1, s, t, r, v⟩ := by
  simp [Lib.join, List.intercalate, printL, wPut]
theorem join_del (s t r v : ByteArray) : Lib.join (([⟨#[100, 101, 108]⟩, s, t, r, v].take 4).map (·.data.toList)) [32] = printL ⟨2, s, t, r, v⟩ := by
  simp [Lib.join, List.intercalate, printL, wDel]
theorem join_gone (s t r v : ByteArray) : Lib.join (([⟨#[103, 111, 110, 101]⟩, s, t, r, v].take 2).map (·.data.toList)) [32] = printL ⟨3, s, t, r, v⟩ := by
  simp [Lib.join, List.intercalate, printL, wGone]
/-- What Print joins. -/
theorem join_five {a b c d f : ByteArray} {bk : Nat} {w : World} (h : HasR w bk 170 #[.string a, .string b, .string c, .string d, .string f]) (n : Nat) (hn : n ≤ 5)
    (hlen : (Lib.join (([a, b, c, d, f].take n).map (·.data.toList)) [32]).length ≤ 1000000) :
    Calls Tryz.prog 98 #[.slice (some ⟨bk, 0, none⟩) n 5, .string ⟨#[32]⟩] w fun e w' => e = .returned (.string ⟨(Lib.join (([a, b, c, d, f].take n).map (·.data.toList)) [32]).toArray⟩) ∧ Below w.heap.size w w' := by
  have hl : ([a, b, c, d, f].take n).length = n := by rw [List.length_take]; simp; omega
  have J := join_any bk 5 ([a, b, c, d, f].take n) w (fun j x hx => ?_) h.lt (by rw [hl]; exact hn) (by decide) hlen
  · rw [hl] at J; exact J
  · have hj : j < n := by
      have := (List.getElem?_eq_some_iff.1 hx).1
      omega
    rw [List.getElem?_take_of_lt hj] at hx
    rw [h.cell]
    match j, hx with
    | 0, hx => simp at hx; subst hx; rfl
    | 1, hx => simp at hx; subst hx; rfl
    | 2, hx => simp at hx; subst hx; rfl
    | 3, hx => simp at hx; subst hx; rfl
    | 4, hx => simp at hx; subst hx; rfl
    | j + 5, _ => omega
set_option maxRecDepth 100000 in
set_option maxHeartbeats 1000000 in
theorem print_bad (k : Int) (s t r v : ByteArray) (w : World) (h : rightB ⟨k, s, t, r, v⟩ = false) : Calls Tryz.prog 69 #[.agg #[.int .i64 k, .string s, .string t, .string r, .string v]] w fun e w' => e = .returned (.tuple #[.string ⟨#[]⟩, .iface 56 (.int .i64 1)]) ∧ Below w.heap.size w w' := by
  have R := hide (fun wx => rightE_any k s t r v wx)
  rw [h] at R
  clear h
  have bel := (Below.refl _ w).alloc (Nat.le_refl _) (.cells #[.int .i64 k, .string s, .string t, .string r, .string v] 36)
  go_enter Tryz.func69, Tryz.ntmps69
  go_wp2_with (go_at_call 72; (with_reducible refine (R.out _).mono ?_); rintro e w1 ⟨rfl, hb1⟩)
  go_ret2
  exact ⟨rfl, bel.trans (hb1.mono (by simp))⟩
set_option maxRecDepth 100000 in
set_option maxHeartbeats 1000000 in
theorem print_put (s t r v : ByteArray) (w : World) (h : rightB ⟨1, s, t, r, v⟩ = true) (hL : TabL w) : Calls Tryz.prog 69 #[.agg #[.int .i64 1, .string s, .string t, .string r, .string v]] w fun e w' => e = .returned (.tuple #[.string (textB ⟨1, s, t, r, v⟩), .nilIface]) ∧ Below w.heap.size w w' := by
  have R := hide (fun wx => rightE_any 1 s t r v wx)
  rw [h] at R
  have bel := (Below.refl _ w).alloc (Nat.le_refl _) (.cells #[.int .i64 1, .string s, .string t, .string r, .string v] 36)
  have l0 := hL.lt
  have J := hide (fun (wx : World) => join_five (w := (wx.alloc (.cells #[.string ⟨#[112, 117, 116]⟩, .string s, .string t, .string r, .string v] 170)).drew) ((HasR.new wx 170 _).drew) 5 (by decide) (by rw [join_put]; exact Nat.le_trans (print_len h) (by decide)))
  clear h
  simp only [textB_join ⟨1, s, t, r, v⟩ _ (join_put s t r v)] at J
  generalize textB ⟨1, s, t, r, v⟩ = T at J
  go_enter Tryz.func69, Tryz.ntmps69
  go_wp2_with (go_at_call 72; (with_reducible refine (R.out _).mono ?_); rintro e w1 ⟨rfl, hb1⟩)
  clear R
  have hX : HasR w1 w.heap.size 36 #[.int .i64 1, .string s, .string t, .string r, .string v] := (HasR.new w 36 _).below hb1 (by simp)
  have hL1 : TabL w1 := (hL.below bel l0).below hb1 (by simp <;> omega)
  have x0 : w1.cell? ⟨w.heap.size, 0, none⟩ = some (.int .i64 1) := hX.cell 0
  have x1 : w1.cell? ⟨w.heap.size, 1, none⟩ = some (.string s) := hX.cell 1
  have x2 : w1.cell? ⟨w.heap.size, 2, none⟩ = some (.string t) := hX.cell 2
  have x3 : w1.cell? ⟨w.heap.size, 3, none⟩ = some (.string r) := hX.cell 3
  have x4 : w1.cell? ⟨w.heap.size, 4, none⟩ = some (.string v) := hX.cell 4
  have y0 : w1.cell? ⟨1, 2, none⟩ = some (.string ⟨#[112, 117, 116]⟩) := hL1.cell 2
  have y1 : w1.cell? ⟨1, 3, none⟩ = some (.int .i64 5) := hL1.cell 3
  have l1 : w.heap.size < w1.heap.size := hX.lt
  have l2 : 1 < w1.heap.size := hL1.lt
  clear hX hL1 hL
  go_region_held3 (fun wx => wx.cell? ⟨w.heap.size, 0, none⟩ = some (.int .i64 1) ∧ wx.cell? ⟨w.heap.size, 1, none⟩ = some (.string s) ∧ wx.cell? ⟨w.heap.size, 2, none⟩ = some (.string t) ∧ wx.cell? ⟨w.heap.size, 3, none⟩ = some (.string r) ∧ wx.cell? ⟨w.heap.size, 4, none⟩ = some (.string v) ∧ wx.cell? ⟨1, 2, none⟩ = some (.string ⟨#[112, 117, 116]⟩)) (go_keep) (fail)
  go_wp2_with (go_at_call 98; (with_reducible refine (J.out w1).mono ?_); rintro e w2 ⟨rfl, hb2⟩)
  go_ret2
  have b1 := bel.trans (hb1.mono (by simp))
  exact ⟨rfl, b1.trans (((Below.refl _ w1).alloc (Nat.le_refl _) _).drew.trans (hb2.mono (by simp)) |>.mono b1.size)⟩
set_option maxRecDepth 100000 in
set_option maxHeartbeats 1000000 in
theorem print_del (s t r v : ByteArray) (w : World) (h : rightB ⟨2, s, t, r, v⟩ = true) (hL : TabL w) : Calls Tryz.prog 69 #[.agg #[.int .i64 2, .string s, .string t, .string r, .string v]] w fun e w' => e = .returned (.tuple #[.string (textB ⟨2, s, t, r, v⟩), .nilIface]) ∧ Below w.heap.size w w' := by
  have R := hide (fun wx => rightE_any 2 s t r v wx)
  rw [h] at R
  have bel := (Below.refl _ w).alloc (Nat.le_refl _) (.cells #[.int .i64 2, .string s, .string t, .string r, .string v] 36)
  have l0 := hL.lt
  have J := hide (fun (wx : World) => join_five (w := (wx.alloc (.cells #[.string ⟨#[100, 101, 108]⟩, .string s, .string t, .string r, .string v] 170)).drew) ((HasR.new wx 170 _).drew) 4 (by decide) (by rw [join_del]; exact Nat.le_trans (print_len h) (by decide)))
  clear h
  simp only [textB_join ⟨2, s, t, r, v⟩ _ (join_del s t r v)] at J
  generalize textB ⟨2, s, t, r, v⟩ = T at J
  go_enter Tryz.func69, Tryz.ntmps69
  go_wp2_with (go_at_call 72; (with_reducible refine (R.out _).mono ?_); rintro e w1 ⟨rfl, hb1⟩)
  clear R
  have hX : HasR w1 w.heap.size 36 #[.int .i64 2, .string s, .string t, .string r, .string v] := (HasR.new w 36 _).below hb1 (by simp)
  have hL1 : TabL w1 := (hL.below bel l0).below hb1 (by simp <;> omega)
  have x0 : w1.cell? ⟨w.heap.size, 0, none⟩ = some (.int .i64 2) := hX.cell 0
  have x1 : w1.cell? ⟨w.heap.size, 1, none⟩ = some (.string s) := hX.cell 1
  have x2 : w1.cell? ⟨w.heap.size, 2, none⟩ = some (.string t) := hX.cell 2
  have x3 : w1.cell? ⟨w.heap.size, 3, none⟩ = some (.string r) := hX.cell 3
  have x4 : w1.cell? ⟨w.heap.size, 4, none⟩ = some (.string v) := hX.cell 4
  have y0 : w1.cell? ⟨1, 4, none⟩ = some (.string ⟨#[100, 101, 108]⟩) := hL1.cell 4
  have y1 : w1.cell? ⟨1, 5, none⟩ = some (.int .i64 4) := hL1.cell 5
  have l1 : w.heap.size < w1.heap.size := hX.lt
  have l2 : 1 < w1.heap.size := hL1.lt
  clear hX hL1 hL
  go_region_held3 (fun wx => wx.cell? ⟨w.heap.size, 0, none⟩ = some (.int .i64 2) ∧ wx.cell? ⟨w.heap.size, 1, none⟩ = some (.string s) ∧ wx.cell? ⟨w.heap.size, 2, none⟩ = some (.string t) ∧ wx.cell? ⟨w.heap.size, 3, none⟩ = some (.string r) ∧ wx.cell? ⟨w.heap.size, 4, none⟩ = some (.string v) ∧ wx.cell? ⟨1, 4, none⟩ = some (.string ⟨#[100, 101, 108]⟩)) (go_keep) (fail)
  go_wp2_with (go_at_call 98; (with_reducible refine (J.out w1).mono ?_); rintro e w2 ⟨rfl, hb2⟩)
  go_ret2
  have b1 := bel.trans (hb1.mono (by simp))
  exact ⟨rfl, b1.trans (((Below.refl _ w1).alloc (Nat.le_refl _) _).drew.trans (hb2.mono (by simp)) |>.mono b1.size)⟩
set_option maxRecDepth 100000 in
set_option maxHeartbeats 1000000 in
theorem print_gone (s t r v : ByteArray) (w : World) (h : rightB ⟨3, s, t, r, v⟩ = true) (hL : TabL w) : Calls Tryz.prog 69 #[.agg #[.int .i64 3, .string s, .string t, .string r, .string v]] w fun e w' => e = .returned (.tuple #[.string (textB ⟨3, s, t, r, v⟩), .nilIface]) ∧ Below w.heap.size w w' := by
  have R := hide (fun wx => rightE_any 3 s t r v wx)
  rw [h] at R
  have bel := (Below.refl _ w).alloc (Nat.le_refl _) (.cells #[.int .i64 3, .string s, .string t, .string r, .string v] 36)
  have l0 := hL.lt
  have J := hide (fun (wx : World) => join_five (w := (wx.alloc (.cells #[.string ⟨#[103, 111, 110, 101]⟩, .string s, .string t, .string r, .string v] 170)).drew) ((HasR.new wx 170 _).drew) 2 (by decide) (by rw [join_gone]; exact Nat.le_trans (print_len h) (by decide)))
  clear h
  simp only [textB_join ⟨3, s, t, r, v⟩ _ (join_gone s t r v)] at J
  generalize textB ⟨3, s, t, r, v⟩ = T at J
  go_enter Tryz.func69, Tryz.ntmps69
  go_wp2_with (go_at_call 72; (with_reducible refine (R.out _).mono ?_); rintro e w1 ⟨rfl, hb1⟩)
  clear R
  have hX : HasR w1 w.heap.size 36 #[.int .i64 3, .string s, .string t, .string r, .string v] := (HasR.new w 36 _).below hb1 (by simp)
  have hL1 : TabL w1 := (hL.below bel l0).below hb1 (by simp <;> omega)
  have x0 : w1.cell? ⟨w.heap.size, 0, none⟩ = some (.int .i64 3) := hX.cell 0
  have x1 : w1.cell? ⟨w.heap.size, 1, none⟩ = some (.string s) := hX.cell 1
  have x2 : w1.cell? ⟨w.heap.size, 2, none⟩ = some (.string t) := hX.cell 2
  have x3 : w1.cell? ⟨w.heap.size, 3, none⟩ = some (.string r) := hX.cell 3
  have x4 : w1.cell? ⟨w.heap.size, 4, none⟩ = some (.string v) := hX.cell 4
  have y0 : w1.cell? ⟨1, 6, none⟩ = some (.string ⟨#[103, 111, 110, 101]⟩) := hL1.cell 6
  have y1 : w1.cell? ⟨1, 7, none⟩ = some (.int .i64 2) := hL1.cell 7
  have l1 : w.heap.size < w1.heap.size := hX.lt
  have l2 : 1 < w1.heap.size := hL1.lt
  clear hX hL1 hL
  go_region_held3 (fun wx => wx.cell? ⟨w.heap.size, 0, none⟩ = some (.int .i64 3) ∧ wx.cell? ⟨w.heap.size, 1, none⟩ = some (.string s) ∧ wx.cell? ⟨w.heap.size, 2, none⟩ = some (.string t) ∧ wx.cell? ⟨w.heap.size, 3, none⟩ = some (.string r) ∧ wx.cell? ⟨w.heap.size, 4, none⟩ = some (.string v) ∧ wx.cell? ⟨1, 6, none⟩ = some (.string ⟨#[103, 111, 110, 101]⟩)) (go_keep) (fail)
  go_wp2_with (go_at_call 98; (with_reducible refine (J.out w1).mono ?_); rintro e w2 ⟨rfl, hb2⟩)
  go_ret2
  have b1 := bel.trans (hb1.mono (by simp))
  exact ⟨rfl, b1.trans (((Below.refl _ w1).alloc (Nat.le_refl _) _).drew.trans (hb2.mono (by simp)) |>.mono b1.size)⟩
/-- What Print answers. -/
theorem print_ok (k : Int) (s t r v : ByteArray) (w : World) (h : rightB ⟨k, s, t, r, v⟩ = true) (hL : TabL w) : Calls Tryz.prog 69 #[.agg #[.int .i64 k, .string s, .string t, .string r, .string v]] w fun e w' => e = .returned (.tuple #[.string (textB ⟨k, s, t, r, v⟩), .nilIface]) ∧ Below w.heap.size w w' := by
  obtain ⟨_, ⟨hk, _⟩ | ⟨hk, _⟩ | ⟨hk, _⟩⟩ := right_kinds h
  · obtain rfl : k = 1 := hk
    exact print_put s t r v w h hL
  · obtain rfl : k = 2 := hk
    exact print_del s t r v w h hL
  · obtain rfl : k = 3 := hk
    exact print_gone s t r v w h hL
end Go.Proofs.YtkbaalenbpgheaaGreatDoor

/- A feed is told an event. -/
namespace Go.Proofs.YtkbaalenbpgheaaGreatDoor
open Go.RowKit
attribute [local go_sem ↓] Go.wp_at_zero Go.wp_at_succ
/-- What is told of an event, and what is left of the keys. -/
def newR (rs : List Rec) (e : Ev) : Rec := ⟨rs.length + 1, e.s, 0, headR rs, ⟨#[]⟩⟩
def tellR (sec : ByteArray) (σ : Kept) (rs : List Rec) (e : Ev) : Rec := if e.k = 3 then { newR rs e with d := textB e } else sealR sec σ (newR rs e) (textB e)
def tellK (σ : Kept) (e : Ev) : Kept := if e.k = 3 then gone σ e.s.data.toList else made σ e.s.data.toList
theorem HasR.apartT {w : World} {b b' : Nat} {t t' : TypeId} {cs cs' : Array Value} (h : HasR w b t cs) (h' : HasR w b' t' cs') (hne : t ≠ t') : b ≠ b' := by
  intro e
  subst e
  unfold HasR at h h'
  rw [h] at h'
  injection h' with h1
  injection h1 with _ h2
  exact hne h2
theorem HasR.noMap {w : World} {b m n : Nat} {t k : TypeId} {cs : Array Value} {R : Value → Option (DataW Unit × List MemPlace)} {D : DataW Unit} (h : HasR w b t cs) (ho : w.ownsMap Tryz.prog k R m n D) : b ≠ m := by
  intro e
  subst e
  obtain ⟨es, clock, hh, _⟩ := ho
  unfold HasR at h
  rw [h] at hh
  cases hh
/-- The row of records is no other's block. -/
theorem FeedV.free {w : World} {fb vb : Nat} {v : Value} {rs : List Rec} (h : FeedV w fb vb v rs) {mo : Option Nat} {sec : ByteArray} {n : Nat} {σ : Kept} (hV : ProgV w vb mo sec n σ) : fb ∉ vb :: mo.toList ∧ ∀ g, v.ownBlock = some g → g ∉ fb :: vb :: mo.toList := by
  have hm : ∀ m, m ∈ mo.toList → ∃ D, w.ownsMap Tryz.prog 9 holdElem m n D := fun m hm => by
    obtain ⟨D, ho, _⟩ := hV.held m (by simpa using hm)
    exact ⟨D, ho⟩
  refine ⟨fun hmem => ?_, fun g hg hmem => ?_⟩
  · rcases List.mem_cons.1 hmem with e | e
    · exact h.row.apartT hV.row (by decide) e
    · obtain ⟨D, ho⟩ := hm _ e
      exact h.row.noMap ho rfl
  · rcases h.own.2 with ⟨e, _⟩ | ⟨g', cap, cur, e, hb, hh, _⟩
    · rw [e] at hg; cases hg
    · rw [e] at hg
      have hg1 : some g' = some g := hg
      simp only [Option.some.injEq] at hg1
      subst hg1
      have hr : HasR w g' 30 cur := hh
      rcases List.mem_cons.1 hmem with e | hmem
      · omega
      · rcases List.mem_cons.1 hmem with e | e
        · exact hr.apartT hV.row (by decide) e
        · obtain ⟨D, ho⟩ := hm _ e
          exact hr.noMap ho rfl
theorem newR_fit {rs : List Rec} {e : Ev} (hl : rs.length < 100) (hs : e.s.size ≤ 60) : Fit (newR rs e) := ⟨by show rs.length + 1 < 1000000; omega, by show 0 < 1000000; omega, hs, by show (headR rs).size ≤ 60; rw [headR_size]; omega, by show (0 : Nat) ≤ 1000; omega⟩
theorem text_size {e : Ev} (h : rightB e = true) : (textB e).size ≤ 400 := by
  have := print_len h
  have h2 : (textB e).size = (printL e).length := Lib.size_eq _
  omega
theorem subj_size {e : Ev} (h : rightB e = true) : e.s.size ≤ 60 ∧ nameB e.s.data.toList = true := by
  obtain ⟨hs, _⟩ := right_kinds h
  have := name_len hs
  have h2 : e.s.size = e.s.data.toList.length := Lib.size_eq _
  exact ⟨by omega, hs⟩
theorem Stirred.of_grownO {w w' : World} {o : Option Nat} (h : w.grownBy w' o) : Stirred o.toList w w' := ⟨h.os, h.tape, h.output, h.size, fun k hk hn => h.block k hk (fun e => hn (by rw [← e]; simp))⟩
/-- Behind the append and the store of what it answers. -/
theorem tell_end {wc wA w6 : World} {fb vb m gg cp : Nat} {v : Value} {rs : List Rec} {T : Rec} {sec : ByteArray} {n : Nat} {σ : Kept} (F : FeedV wc fb vb v rs) (V : ProgV wc vb (some m) sec n σ) (hA : Below wc.heap.size wc wA) (hg : wA.grownBy w6 v.ownBlock) (ho : w6.ownsRow (fb + 1) 30 5 (.slice (some ⟨gg, 0, none⟩) (rs.length + 1) cp) (rs.length + 1) (recsL rs ++ recL T)) :
    Stirred (fb :: v.ownBlock.toList) wc (w6.setCell ⟨fb, 1, none⟩ (.slice (some ⟨gg, 0, none⟩) (rs.length + 1) cp)) ∧ FeedV (w6.setCell ⟨fb, 1, none⟩ (.slice (some ⟨gg, 0, none⟩) (rs.length + 1) cp)) fb vb (.slice (some ⟨gg, 0, none⟩) (rs.length + 1) cp) (rs ++ [T]) ∧ ProgV (w6.setCell ⟨fb, 1, none⟩ (.slice (some ⟨gg, 0, none⟩) (rs.length + 1) cp)) vb (some m) sec n σ := by
  obtain ⟨fr1, fr2⟩ := F.free V
  have t6 : Stirred v.ownBlock.toList wc w6 := (Stirred.of_below hA _).andThen (Stirred.of_grownO hg) (fun j hj => .inl hj)
  have ts : Stirred [fb] w6 (w6.setCell ⟨fb, 1, none⟩ (.slice (some ⟨gg, 0, none⟩) (rs.length + 1) cp)) := Stirred.setCell w6 ⟨fb, 1, none⟩ _
  have t7 : Stirred (fb :: v.ownBlock.toList) wc (w6.setCell ⟨fb, 1, none⟩ (.slice (some ⟨gg, 0, none⟩) (rs.length + 1) cp)) := (t6.mono (fun j hj => List.mem_cons_of_mem _ hj)).andThen ts (fun j hj => .inl (by simp at hj; simp [hj]))
  have nf : fb ∉ v.ownBlock.toList := fun hm => fr2 fb (by simpa using hm) (by simp)
  refine ⟨t7, ⟨?_, ?_⟩, V.turned t7 (fun hm => ?_) (fun m' e hm => ?_)⟩
  · have := (F.row.turned t6 nf).set 1 (.slice (some ⟨gg, 0, none⟩) (rs.length + 1) cp)
    exact this
  · rw [List.length_append, recsL_snoc]
    refine ho.kept (row := some fb) ⟨ts.os, ts.tape, ts.output, ts.size, fun k hk hn => ts.block k hk (by simp; intro e1; exact hn (by rw [e1]))⟩ (.inr (fun e1 => ?_))
    have h0 := (ho.lt gg rfl).1
    have h1 : some gg = some fb := e1
    simp only [Option.some.injEq] at h1
    omega
  · rcases List.mem_cons.1 hm with e | e
    · exact fr1 (by rw [← e]; simp)
    · exact fr2 vb (by simpa using e) (by simp)
  · cases e
    rcases List.mem_cons.1 hm with e | e
    · exact fr1 (by rw [← e]; simp)
    · exact fr2 m (by simpa using e) (by simp)
theorem info66 : (Tryz.prog.info? 30).map (fun i => (i.zero, i.size, i.bytes)) = some (some (.agg rec0), 5, 64) := by kernel_rfl
set_option maxRecDepth 100000 in
set_option maxHeartbeats 4000000 in
theorem tell_ok (w : World) (fb vb : Nat) (v : Value) (rs : List Rec) (mo : Option Nat) (sec : ByteArray) (n : Nat) (σ : Kept) (e : Ev) (hF : FeedV w fb vb v rs) (hV : ProgV w vb mo sec n σ) (hr : rightB e = true) (hg : e.k = 3 → (σ e.s.data.toList).2 = true) (hp : sec.size ≤ 60) (hfit : ∀ r ∈ rs, Fit r) (hlen : rs.length < 100) (hn : n < 1000) (hσ : ∀ l, (σ l).1 ≤ n) (hK : TabK w) (hL : TabL w) (hKS : ∀ w', Stirred (vb :: mo.toList) w w' → TabK w') :
    Calls Tryz.prog 43 #[.pointer (some ⟨fb, 0, none⟩), .agg #[.int .i64 e.k, .string e.s, .string e.t, .string e.r, .string e.v]] w fun x w' =>
      x = .returned (.tuple #[.agg (recA (tellR sec σ rs e)), .nilIface]) ∧ ∃ m, ProgV w' vb (some m) sec (n + 1) (tellK σ e) ∧ (mo = some m ∨ (mo = none ∧ w.heap.size ≤ m)) ∧ ∃ v', FeedV w' fb vb v' (rs ++ [tellR sec σ rs e]) ∧ (v'.ownBlock = v.ownBlock ∨ ∀ g, v'.ownBlock = some g → w.heap.size ≤ g) ∧ Stirred (fb :: vb :: (mo.toList ++ v.ownBlock.toList)) w w' := by
  obtain ⟨hs60, hname⟩ := subj_size hr
  have htx := text_size hr
  have bel : Below w.heap.size w ((w.alloc (.cells #[.int .i64 e.k, .string e.s, .string e.t, .string e.r, .string e.v] 36)).alloc (.cells rec0 30)) := ((Below.refl _ w).alloc (Nat.le_refl _) _).alloc (by simp) _
  have P := hide (print_ok e.k e.s e.t e.r e.v ((w.alloc (.cells #[.int .i64 e.k, .string e.s, .string e.t, .string e.r, .string e.v] 36)).alloc (.cells rec0 30)) hr (hL.below bel hL.lt))
  rw [show (⟨e.k, e.s, e.t, e.r, e.v⟩ : Ev) = e from rfl] at P
  have E3 := hide ((HasR.new w 36 #[.int .i64 e.k, .string e.s, .string e.t, .string e.r, .string e.v]).alloc (.cells rec0 30))
  have E4 := hide (HasR.new (w.alloc (.cells #[.int .i64 e.k, .string e.s, .string e.t, .string e.r, .string e.v] 36)) 30 rec0)
  rw [World.size_alloc] at E4
  have hq := ptrF_nil fb
  have hne := nilNe
  obtain ⟨p, c, rfl⟩ := hF.slice
  have HF := hide hF
  have HV := hide hV
  have BL := hide bel
  have HKS := hide hKS
  have HFI := hide hfit
  have HK := hide hK
  have hfb := hF.row.lt
  have hl100 : ¬ (100 : Int) ≤ (rs.length : Int) := by omega
  generalize hTx : textB e = tx at P htx
  clear hF hV bel hKS hfit hL hK
  unfold rec0 at P E3 E4 BL
  go_enter Tryz.func43, Tryz.ntmps43
  go_upto_region 8 with (go_at_call 69; (with_reducible refine P.out.mono ?_); rintro x w1 ⟨rfl, hb1⟩; have B1 := hide (BL.out.trans (hb1.mono BL.out.size)); have X3 := hide (E3.out.below hb1 E3.out.lt); have X4 := hide (E4.out.below hb1 E4.out.lt); have F1 := hide (HF.out.below (BL.out.trans (hb1.mono BL.out.size))); have f1 : w1.cell? ⟨fb, 1, none⟩ = some (.slice p rs.length c) := F1.out.row.cell 1; clear hb1)
  have y1 : w1.cell? ⟨w.heap.size, 1, none⟩ = some (.string e.s) := X3.out.cell 1
  have HKw := hide (fun wx (hb : Below w1.heap.size w1 wx) => HK.out.below (B1.out.trans (hb.mono B1.out.size)) HK.out.lt)
  have HD := hide (fun wx (hb : Below w1.heap.size w1 wx) => head_any wx fb vb _ rs (F1.out.below hb) HFI.out (by omega) (HKw.out wx hb))
  have hl1 := B1.out.size
  have hwr : IntKind.i64.wrap ((rs.length : Int) + 1) = (rs.length : Int) + 1 := by rw [IntKind.wrap_i64]; omega
  have hx3 := X3.out.lt
  have ne1 : w1.heap.size ≠ w.heap.size := by omega
  have ne2 : w1.heap.size ≠ fb := by omega
  have ne5 : w.heap.size ≠ w1.heap.size := by omega
  have ne6 : fb ≠ w1.heap.size := by omega
  go_cut [8] (fun s8 wx => ∃ B8 : Nat, s8 = .pointer (some ⟨B8, 0, none⟩) ∧ w1.heap.size ≤ B8 ∧ HasR wx B8 30 #[.int .i64 ((rs.length : Int) + 1), .string e.s, .int .i64 0, .string (headR rs), .string ⟨#[]⟩] ∧ Below w1.heap.size w1 wx)
  case first =>
    go_region_held3 (fun wx => wx.cell? ⟨w.heap.size, 1, none⟩ = some (.string e.s) ∧ wx.cell? ⟨fb, 1, none⟩ = some (.slice p rs.length c)) (first | (with_reducible exact K2.out) | go_keep)
      (first
      | (go_at_call 42; (with_reducible refine (HD.out _ (Below.refl _ w1).drew).mono ?_); rintro x w2 ⟨rfl, hb2⟩; have B2 := hide ((Below.refl w1.heap.size w1).drew.trans hb2); have y2 : w2.cell? ⟨w.heap.size, 1, none⟩ = some (.string e.s) := (B2.out.cell hx3).trans y1; have f2 : w2.cell? ⟨fb, 1, none⟩ = some (.slice p rs.length c) := (B2.out.cell (p := ⟨fb, 1, none⟩) (by show fb < _; omega)).trans f1; have K2 := hide (And.intro y2 f2); have hw2 := B2.out.size; have ne3 : w2.heap.size ≠ w.heap.size := (by omega); have ne4 : w2.heap.size ≠ fb := (by omega); have ne7 : w.heap.size ≠ w2.heap.size := (by omega); have ne8 : fb ≠ w2.heap.size := (by omega); clear hb2)
      | (go_at_call 42; (with_reducible refine (HD.out _ ((Below.refl _ w1).alloc (Nat.le_refl _) _).drew).mono ?_); rintro x w2 ⟨rfl, hb2⟩; have X8 := hide ((HasR.new w1 30 #[.int .i64 0, .string ⟨#[]⟩, .int .i64 0, .string ⟨#[]⟩, .string ⟨#[]⟩]).drew.below hb2 (HasR.new w1 30 _).drew.lt); have B2 := hide (((Below.refl w1.heap.size w1).alloc (Nat.le_refl _) (.cells #[.int .i64 0, .string ⟨#[]⟩, .int .i64 0, .string ⟨#[]⟩, .string ⟨#[]⟩] 30)).drew.trans (hb2.mono ((Below.refl w1.heap.size w1).alloc (Nat.le_refl _) (.cells #[.int .i64 0, .string ⟨#[]⟩, .int .i64 0, .string ⟨#[]⟩, .string ⟨#[]⟩] 30)).drew.size)); have y2 : w2.cell? ⟨w.heap.size, 1, none⟩ = some (.string e.s) := (B2.out.cell hx3).trans y1; have f2 : w2.cell? ⟨fb, 1, none⟩ = some (.slice p rs.length c) := (B2.out.cell (p := ⟨fb, 1, none⟩) (by show fb < _; omega)).trans f1; have z0 : w2.cell? ⟨w1.heap.size, 0, none⟩ = some (.int .i64 0) := X8.out.cell 0; have z1 : w2.cell? ⟨w1.heap.size, 1, none⟩ = some (.string ⟨#[]⟩) := X8.out.cell 1; have z2 : w2.cell? ⟨w1.heap.size, 2, none⟩ = some (.int .i64 0) := X8.out.cell 2; have z3 : w2.cell? ⟨w1.heap.size, 3, none⟩ = some (.string ⟨#[]⟩) := X8.out.cell 3; have z4 : w2.cell? ⟨w1.heap.size, 4, none⟩ = some (.string ⟨#[]⟩) := X8.out.cell 4; have o0 : w2.frozen? ⟨w1.heap.size, 0, none⟩ = false := X8.out.free 0; have o1 : w2.frozen? ⟨w1.heap.size, 1, none⟩ = false := X8.out.free 1; have o2 : w2.frozen? ⟨w1.heap.size, 2, none⟩ = false := X8.out.free 2; have o3 : w2.frozen? ⟨w1.heap.size, 3, none⟩ = false := X8.out.free 3; have o4 : w2.frozen? ⟨w1.heap.size, 4, none⟩ = false := X8.out.free 4; have K2 := hide (And.intro y2 f2); have hw2 := B2.out.size; have ne3 : w2.heap.size ≠ w.heap.size := (by omega); have ne4 : w2.heap.size ≠ fb := (by omega); have ne7 : w.heap.size ≠ w2.heap.size := (by omega); have ne8 : fb ≠ w2.heap.size := (by omega); clear hb2))
    all_goals
      go_wp2
      go_meet
      first
        | exact ⟨w1.heap.size, rfl, Nat.le_refl _, HasR.five X8.out _ _ _ _ _, B2.out.trans ((stir5 w2 w1.heap.size _ _ _ _ _).below B2.out.size (fun j hj => by simp at hj; omega))⟩
        | exact ⟨w2.heap.size, rfl, hw2, HasR.new w2 30 _, B2.out.alloc B2.out.size _⟩
  case rest =>
    clear y1 HD ne1 ne2 ne5 ne6 f1
    obtain ⟨B8, rfl, hB8, hX8, hb8⟩ := hcut
    have hw8 := hb8.size
    have hx8 := hX8.lt
    have V1 := hide (HV.out.below B1.out)
    have V8 := hide (V1.out.below hb8)
    have F8 := hide (F1.out.below hb8)
    have X38 := hide (X3.out.below hb8 X3.out.lt)
    have X48 := hide (X4.out.below hb8 X4.out.lt)
    have H8 := hide hX8
    have BB := hide hb8
    have k0 : wc.cell? ⟨w.heap.size, 0, none⟩ = some (.int .i64 e.k) := X38.out.cell 0
    have v0 : wc.cell? ⟨fb, 0, none⟩ = some (.pointer (some ⟨vb, 0, none⟩)) := F8.out.row.cell 0
    have c0 : wc.cell? ⟨B8, 0, none⟩ = some (.int .i64 ((rs.length : Int) + 1)) := H8.out.cell 0
    have c1 : wc.cell? ⟨B8, 1, none⟩ = some (.string e.s) := H8.out.cell 1
    have c2 : wc.cell? ⟨B8, 2, none⟩ = some (.int .i64 0) := H8.out.cell 2
    have c3 : wc.cell? ⟨B8, 3, none⟩ = some (.string (headR rs)) := H8.out.cell 3
    have c4 : wc.cell? ⟨B8, 4, none⟩ = some (.string ⟨#[]⟩) := H8.out.cell 4
    have o0 : wc.frozen? ⟨B8, 0, none⟩ = false := H8.out.free 0
    have o1 : wc.frozen? ⟨B8, 1, none⟩ = false := H8.out.free 1
    have o2 : wc.frozen? ⟨B8, 2, none⟩ = false := H8.out.free 2
    have o3 : wc.frozen? ⟨B8, 3, none⟩ = false := H8.out.free 3
    have o4 : wc.frozen? ⟨B8, 4, none⟩ = false := H8.out.free 4
    have Vd := hide (V8.out.below (Below.refl _ wc).drew)
    have Kd := hide (HKw.out _ hb8.drew)
    have nr := newR_fit (rs := rs) (e := e) hlen hs60
    have FO : Hid (e.k = 3 → Calls Tryz.prog 70 #[.pointer (some ⟨vb, 0, none⟩), .agg #[.int .i64 ((rs.length : Int) + 1), .string e.s, .int .i64 0, .string (headR rs), .string ⟨#[]⟩], .string tx] wc.drew fun x w' => x = .returned (.tuple #[.agg #[.int .i64 ((rs.length : Int) + 1), .string e.s, .int .i64 0, .string (headR rs), .string tx], .nilIface]) ∧ Keeps wc.drew w' vb mo sec (n + 1) (gone σ e.s.data.toList)) := fun hk => forgetF_held vb mo sec n σ (newR rs e) tx wc.drew hs60 hn Vd.out (hg hk)
    have SE : Hid (Calls Tryz.prog 71 #[.pointer (some ⟨vb, 0, none⟩), .agg #[.int .i64 ((rs.length : Int) + 1), .string e.s, .int .i64 0, .string (headR rs), .string ⟨#[]⟩], .string tx] wc.drew fun x w' => x = .returned (.tuple #[.agg #[.int .i64 ((sealR sec σ (newR rs e) tx).q : Int), .string (sealR sec σ (newR rs e) tx).s, .int .i64 ((sealR sec σ (newR rs e) tx).g : Int), .string (sealR sec σ (newR rs e) tx).p, .string (sealR sec σ (newR rs e) tx).d], .nilIface]) ∧ Keeps wc.drew w' vb mo sec (n + 1) (made σ e.s.data.toList)) := sealF_any vb mo sec n σ (newR rs e) tx wc.drew hp nr hn (hσ _) hname Kd.out (fun w' ts => HKS.out w' ((Stirred.of_below (B1.out.trans (hb8.drew.mono B1.out.size)) _).andThen ts (fun j hj => .inl hj))) htx Vd.out
    obtain ⟨T, hT⟩ : ∃ T, T = tellR sec σ rs e := ⟨_, rfl⟩
    have HTT := hide hT
    clear hT
    have NIN : Hid (B8 ∉ vb :: mo.toList) := fun hmem => by
      have h1 := HV.out.row.lt
      rcases List.mem_cons.1 hmem with e | e
      · omega
      · obtain ⟨D, ho, _⟩ := HV.out.held B8 (by simpa using e)
        have := ho.lt
        omega
    clear hX8 hb8 nr
    obtain ⟨kk, hkk⟩ : ∃ kk, kk = e.k := ⟨_, rfl⟩
    rw [← hkk] at k0
    have HKK := hide hkk
    clear hkk
    go_upto_if 43 with fail
    go_cut [7] (fun s7 wx => s7 = .nilIface ∧ HasR wx B8 30 #[.int .i64 (T.q : Int), .string T.s, .int .i64 (T.g : Int), .string T.p, .string T.d] ∧ Keeps w1 wx vb mo sec (n + 1) (tellK σ e))
    case first =>
      by_cases hkx : kk = 3
      · have hk : e.k = 3 := by rw [← HKK.out]; exact hkx
        have TE : T = { newR rs e with d := tx } := by rw [HTT.out]; unfold tellR; rw [if_pos hk, hTx]
        have KE : tellK σ e = gone σ e.s.data.toList := by unfold tellK; rw [if_pos hk]
        have FK := hide (FO.out hk)
        clear FO SE HTT hk
        go_wp2
        go_region_with ((go_at_call 70; (with_reducible refine FK.out.mono ?_); rintro x w5 ⟨rfl, hk5⟩; have K5 := hide hk5; obtain ⟨m5, hp5, hm5, hs5⟩ := hk5; have X5 := hide (H8.out.drew.turned hs5 NIN.out); have s0 : w5.cell? ⟨B8, 0, none⟩ = some (.int .i64 ((rs.length : Int) + 1)) := X5.out.cell 0; have s1 : w5.cell? ⟨B8, 1, none⟩ = some (.string e.s) := X5.out.cell 1; have s2 : w5.cell? ⟨B8, 2, none⟩ = some (.int .i64 0) := X5.out.cell 2; have s3 : w5.cell? ⟨B8, 3, none⟩ = some (.string (headR rs)) := X5.out.cell 3; have s4 : w5.cell? ⟨B8, 4, none⟩ = some (.string ⟨#[]⟩) := X5.out.cell 4; have q0 : w5.frozen? ⟨B8, 0, none⟩ = false := X5.out.free 0; have q1 : w5.frozen? ⟨B8, 1, none⟩ = false := X5.out.free 1; have q2 : w5.frozen? ⟨B8, 2, none⟩ = false := X5.out.free 2; have q3 : w5.frozen? ⟨B8, 3, none⟩ = false := X5.out.free 3; have q4 : w5.frozen? ⟨B8, 4, none⟩ = false := X5.out.free 4; clear hp5 hm5 hs5))
        all_goals
          go_wp2
          go_meet
          exact ⟨rfl, by rw [TE]; exact HasR.five X5.out _ _ _ _ _, by rw [KE]; exact K5.out.wrap V1.out BB.out.drew (stir5 w5 B8 _ _ _ _ _) (fun j hj => by simp at hj; subst hj; exact ⟨hB8, hx8⟩)⟩
      · have hk : ¬ e.k = 3 := by rw [← HKK.out]; exact hkx
        have TE : T = sealR sec σ (newR rs e) tx := by rw [HTT.out]; unfold tellR; rw [if_neg hk, hTx]
        have KE : tellK σ e = made σ e.s.data.toList := by unfold tellK; rw [if_neg hk]
        have FK := hide SE.out
        clear FO SE HTT hk
        go_wp2
        go_region_with ((go_at_call 71; (with_reducible refine FK.out.mono ?_); rintro x w5 ⟨rfl, hk5⟩; have K5 := hide hk5; obtain ⟨m5, hp5, hm5, hs5⟩ := hk5; have X5 := hide (H8.out.drew.turned hs5 NIN.out); have s0 : w5.cell? ⟨B8, 0, none⟩ = some (.int .i64 ((rs.length : Int) + 1)) := X5.out.cell 0; have s1 : w5.cell? ⟨B8, 1, none⟩ = some (.string e.s) := X5.out.cell 1; have s2 : w5.cell? ⟨B8, 2, none⟩ = some (.int .i64 0) := X5.out.cell 2; have s3 : w5.cell? ⟨B8, 3, none⟩ = some (.string (headR rs)) := X5.out.cell 3; have s4 : w5.cell? ⟨B8, 4, none⟩ = some (.string ⟨#[]⟩) := X5.out.cell 4; have q0 : w5.frozen? ⟨B8, 0, none⟩ = false := X5.out.free 0; have q1 : w5.frozen? ⟨B8, 1, none⟩ = false := X5.out.free 1; have q2 : w5.frozen? ⟨B8, 2, none⟩ = false := X5.out.free 2; have q3 : w5.frozen? ⟨B8, 3, none⟩ = false := X5.out.free 3; have q4 : w5.frozen? ⟨B8, 4, none⟩ = false := X5.out.free 4; clear hp5 hm5 hs5))
        all_goals
          go_wp2
          go_meet
          exact ⟨rfl, by rw [TE]; exact HasR.five X5.out _ _ _ _ _, by rw [KE]; exact K5.out.wrap V1.out BB.out.drew (stir5 w5 B8 _ _ _ _ _) (fun j hj => by simp at hj; subst hj; exact ⟨hB8, hx8⟩)⟩
    case rest =>
      clear k0 v0 c0 c1 c2 c3 c4 o0 o1 o2 o3 o4 FO SE Vd Kd NIN H8 V8 F8 X38 X48 BB hw8 hx8
      obtain ⟨rfl, hT8, hKe⟩ := hcut
      obtain ⟨m, hpm, hm, hst⟩ := hKe
      obtain ⟨fr1, fr2⟩ := F1.out.free V1.out
      have F2 := hide (F1.out.turned hst fr1 (fun g hg hmem => fr2 g hg (List.mem_cons_of_mem _ hmem)))
      have n4 : w.heap.size + 1 ∉ vb :: mo.toList := fun hmem => by
        have h1 := HV.out.row.lt
        rcases List.mem_cons.1 hmem with e | e
        · omega
        · obtain ⟨D, ho, _⟩ := HV.out.held _ (by simpa using e)
          have := ho.lt
          omega
      have X42 := hide (X4.out.turned hst n4)
      have PM := hide hpm
      have ST := hide hst
      have HT8 := hide hT8
      have FR := hide (And.intro fr1 fr2)
      have f1 : wc.cell? ⟨fb, 1, none⟩ = some (.slice p rs.length c) := F2.out.row.cell 1
      have f2 : wc.frozen? ⟨fb, 1, none⟩ = false := F2.out.row.free 1
      have c0 : wc.cell? ⟨B8, 0, none⟩ = some (.int .i64 (T.q : Int)) := HT8.out.cell 0
      have c1 : wc.cell? ⟨B8, 1, none⟩ = some (.string T.s) := HT8.out.cell 1
      have c2 : wc.cell? ⟨B8, 2, none⟩ = some (.int .i64 (T.g : Int)) := HT8.out.cell 2
      have c3 : wc.cell? ⟨B8, 3, none⟩ = some (.string T.p) := HT8.out.cell 3
      have c4 : wc.cell? ⟨B8, 4, none⟩ = some (.string T.d) := HT8.out.cell 4
      have hfbw : fb < wc.heap.size := F2.out.row.lt
      have hN := news_blk (HasR.new wc 30 #[.int .i64 (T.q : Int), .string T.s, .int .i64 (T.g : Int), .string T.p, .string T.d])
      have HN := hide hN
      obtain ⟨i0, hi, hz0, hz1, hz2⟩ := info_parts info66
      clear hpm hst hT8 fr1 fr2 hN
      go_upto_region 14 with fail
      have hlN := F2.out.own
      go_region_law ((refine step_append_lies _ (by rfl) _ _ _ (by rfl) (fb + 1) 30 i0 _ 5 64 Tryz.underlying39 hi hz0 hz1 hz2 rfl (by omega) (.slice p rs.length c) rs.length (recsL rs) (by rfl) ((hlN.alloc _).drew) ⟨wc.heap.size, 0, none⟩ 1 1 (recL T) (by rfl) (by rfl) (World.news_of_block (cs := recA T) (t := 30) (fr := (0, 0)) (heap_alloc_new wc _)) (by simp [Value.oneCell', recL]) (by omega) (by unfold maxLen; omega) (by omega) (by simp; omega) (wc.heap.size + 1) (by simp) ?_; intro gg cp w6 hown6 hgrow hat hlt; have hnf : some fb ≠ (Value.slice p rs.length c).ownBlock := (fun e1 => FR.out.2 fb e1.symm (by simp)); have f6 : w6.cell? ⟨fb, 1, none⟩ = some (.slice p rs.length c) := ((hgrow.cell_far ⟨fb, 1, none⟩ (by simp; omega) hnf).trans (((Below.refl _ wc).alloc (Nat.le_refl _) _).drew.cell (p := ⟨fb, 1, none⟩) hfbw)).trans f1; have q6 : w6.frozen? ⟨fb, 1, none⟩ = false := ((hgrow.frozen_far ⟨fb, 1, none⟩ (by simp; omega) hnf).trans (World.frozen?_of_block (w := wc) (a := ⟨fb, 1, none⟩) (((Below.refl _ wc).alloc (Nat.le_refl _) _).drew.block fb hfbw))).trans f2; have HO6 := hide hown6; have HG6 := hide hgrow; have HAT := hide hat; clear hown6 hgrow hat hnf))
      all_goals
        obtain ⟨t7, F7, V7⟩ := tell_end F2.out PM.out ((Below.refl _ wc).alloc (Nat.le_refl _) _).drew HG6.out HO6.out
        have gl : ∀ g, (Value.slice p rs.length c).ownBlock = some g → g < w.heap.size := fun g hgo => (HF.out.own.lt g hgo).2
        have n8 : B8 ∉ fb :: (Value.slice p rs.length c).ownBlock.toList := fun hmem => by
          rcases List.mem_cons.1 hmem with e1 | e1
          · omega
          · have := gl B8 (by simpa using e1)
            omega
        have n9 : w.heap.size + 1 ∉ fb :: (Value.slice p rs.length c).ownBlock.toList := fun hmem => by
          rcases List.mem_cons.1 hmem with e1 | e1
          · omega
          · have := gl _ (by simpa using e1)
            omega
        have Y8 := HT8.out.turned t7 n8
        have Y4 := X42.out.turned t7 n9
        have Q7 := hide t7
        have QF := hide F7
        have QV := hide V7
        clear t7 F7 V7 f1 f2 c0 c1 c2 c3 c4 f6 q6 n8 n9
        generalize w6.setCell ⟨fb, 1, none⟩ (.slice (some ⟨gg, 0, none⟩) (rs.length + 1) cp) = w7 at Y8 Y4 Q7 QF QV ⊢
        have c0 : w7.cell? ⟨B8, 0, none⟩ = some (.int .i64 (T.q : Int)) := Y8.cell 0
        have c1 : w7.cell? ⟨B8, 1, none⟩ = some (.string T.s) := Y8.cell 1
        have c2 : w7.cell? ⟨B8, 2, none⟩ = some (.int .i64 (T.g : Int)) := Y8.cell 2
        have c3 : w7.cell? ⟨B8, 3, none⟩ = some (.string T.p) := Y8.cell 3
        have c4 : w7.cell? ⟨B8, 4, none⟩ = some (.string T.d) := Y8.cell 4
        have d0 : w7.cell? ⟨w.heap.size + 1, 0, none⟩ = some (.int .i64 0) := Y4.cell 0
        have d1 : w7.cell? ⟨w.heap.size + 1, 1, none⟩ = some (.string ⟨#[]⟩) := Y4.cell 1
        have d2 : w7.cell? ⟨w.heap.size + 1, 2, none⟩ = some (.int .i64 0) := Y4.cell 2
        have d3 : w7.cell? ⟨w.heap.size + 1, 3, none⟩ = some (.string ⟨#[]⟩) := Y4.cell 3
        have d4 : w7.cell? ⟨w.heap.size + 1, 4, none⟩ = some (.string ⟨#[]⟩) := Y4.cell 4
        have o0 : w7.frozen? ⟨w.heap.size + 1, 0, none⟩ = false := Y4.free 0
        have o1 : w7.frozen? ⟨w.heap.size + 1, 1, none⟩ = false := Y4.free 1
        have o2 : w7.frozen? ⟨w.heap.size + 1, 2, none⟩ = false := Y4.free 2
        have o3 : w7.frozen? ⟨w.heap.size + 1, 3, none⟩ = false := Y4.free 3
        have o4 : w7.frozen? ⟨w.heap.size + 1, 4, none⟩ = false := Y4.free 4
        have H4 := hide Y4
        clear Y4 Y8
        go_wp2
        have XF := HasR.five H4.out (.int .i64 (T.q : Int)) (.string T.s) (.int .i64 (T.g : Int)) (.string T.p) (.string T.d)
        have TF := stir5 w7 (w.heap.size + 1) (.int .i64 (T.q : Int)) (.string T.s) (.int .i64 (T.g : Int)) (.string T.p) (.string T.d)
        generalize ((((w7.setCell ⟨w.heap.size + 1, 0, none⟩ (.int .i64 (T.q : Int))).setCell ⟨w.heap.size + 1, 1, none⟩ (.string T.s)).setCell ⟨w.heap.size + 1, 2, none⟩ (.int .i64 (T.g : Int))).setCell ⟨w.heap.size + 1, 3, none⟩ (.string T.p)).setCell ⟨w.heap.size + 1, 4, none⟩ (.string T.d) = wf at XF TF ⊢
        have z0 : wf.cell? ⟨w.heap.size + 1, 0, none⟩ = some (.int .i64 (T.q : Int)) := XF.cell 0
        have z1 : wf.cell? ⟨w.heap.size + 1, 1, none⟩ = some (.string T.s) := XF.cell 1
        have z2 : wf.cell? ⟨w.heap.size + 1, 2, none⟩ = some (.int .i64 (T.g : Int)) := XF.cell 2
        have z3 : wf.cell? ⟨w.heap.size + 1, 3, none⟩ = some (.string T.p) := XF.cell 3
        have z4 : wf.cell? ⟨w.heap.size + 1, 4, none⟩ = some (.string T.d) := XF.cell 4
        have hw1 := B1.out.size
        have nv : vb ∉ [w.heap.size + 1] := by have := HV.out.row.lt; simp; omega
        have hmw : mo = some m ∨ (mo = none ∧ w.heap.size ≤ m) := by
          rcases hm with h | ⟨h, h'⟩
          · exact .inl h
          · exact .inr ⟨h, by omega⟩
        have nm : m ∉ [w.heap.size + 1] := by
          rcases hm with h | ⟨_, h'⟩
          · obtain ⟨D, ho, _⟩ := HV.out.held m h
            have := ho.lt
            simp; omega
          · have := X4.out.lt
            simp; omega
        refine bodyPost_ret (v := .tuple #[.agg #[.int .i64 (T.q : Int), .string T.s, .int .i64 (T.g : Int), .string T.p, .string T.d], .nilIface]) (by simp [results, Tryz.results43, go_sem, z0, z1, z2, z3, z4]) rfl ?_
        rw [← HTT.out]
        refine ⟨rfl, m, QV.out.turned TF nv (fun m' e1 => by cases e1; exact nm), hmw, (.slice (some ⟨gg, 0, none⟩) (rs.length + 1) cp), QF.out.turned TF (by simp; omega) (fun g hgo => ?_), ?_, ?_⟩
        · rcases HAT.out with h | h
          · have h1 : some gg = some g := hgo
            simp only [Option.some.injEq] at h1
            have := gl gg h
            simp; omega
          · have h1 : some gg = some g := hgo
            simp only [Option.some.injEq] at h1
            have := ST.out.size
            simp; omega
        · rcases HAT.out with h | h
          · exact .inl h.symm
          · refine .inr (fun g hgo => ?_)
            have h1 : some gg = some g := hgo
            simp only [Option.some.injEq] at h1
            have := ST.out.size
            omega
        · have sub1 : ∀ j ∈ vb :: mo.toList, j ∈ fb :: vb :: (mo.toList ++ (Value.slice p rs.length c).ownBlock.toList) := fun j hj => by
            rcases List.mem_cons.1 hj with e1 | e1 <;> simp [e1]
          have sub2 : ∀ j ∈ fb :: (Value.slice p rs.length c).ownBlock.toList, j ∈ fb :: vb :: (mo.toList ++ (Value.slice p rs.length c).ownBlock.toList) := fun j hj => by
            rcases List.mem_cons.1 hj with e1 | e1
            · simp [e1]
            · exact List.mem_cons_of_mem _ (List.mem_cons_of_mem _ (List.mem_append_right _ e1))
          have s1 : Stirred (fb :: vb :: (mo.toList ++ (Value.slice p rs.length c).ownBlock.toList)) w wc := (Stirred.of_below B1.out _).andThen ST.out (fun j hj => .inl (sub1 j hj))
          exact (s1.andThen Q7.out (fun j hj => .inl (sub2 j hj))).andThen TF (fun j hj => .inr (by simp at hj; omega))
end Go.Proofs.YtkbaalenbpgheaaGreatDoor
