/- Events that are one subject's, in one table: the law's own closure. -/
import Derived.Test.YtpfihhilgeihoaaFar
namespace Go.Proofs.Ytpfihhilgeihoaa
open Go.RowKit Go.Sort
attribute [local go_sem ↓] Go.wp_at_zero Go.wp_at_succ
set_option linter.unusedSectionVars false
variable [Inhabited Cl] [Inhabited Ev]
def evsL (es : List Ev) : List Value := es.flatMap evL
theorem evsL_snoc (es : List Ev) (e : Ev) : evsL (es ++ [e]) = evsL es ++ evL e := by simp [evsL]
theorem evsL_at : ∀ (es : List Ev) (j i : Nat), j < es.length → i < 5 → (evsL es)[j * 5 + i]? = (evL es[j]!)[i]?
  | [], j, i, h, _ => by simp at h
  | e :: es, 0, i, _, hi => by
    have e1 : evsL (e :: es) = evL e ++ evsL es := rfl
    rw [e1, Nat.zero_mul, Nat.zero_add, List.getElem?_append_left (by exact hi)]
    rfl
  | e :: es, j + 1, i, h, hi => by
    have e1 : evsL (e :: es) = evL e ++ evsL es := rfl
    have ih := evsL_at es j i (by simpa using h) hi
    have e2 : (j + 1) * 5 + i = 5 + (j * 5 + i) := by omega
    rw [e1, e2, List.getElem?_append_right (by simp [evL])]
    have e3 : (e :: es)[j + 1]! = es[j]! := by simp
    rw [e3, ← ih]
    congr 1
    simp [evL]
theorem EvRow.of_owns {w : World} {base : Nat} {v : Value} {es : List Ev} (h : w.ownsRow base 36 5 v es.length (evsL es)) : EvRow w v es := by
  rcases h.2 with ⟨rfl, h0⟩ | ⟨g, cap, cur, rfl, hb, hg, h1, h2, h3, h4⟩
  · exact .inl ⟨⟨_, _, rfl⟩, List.length_eq_zero_iff.1 h0⟩
  · refine .inr ⟨g, 0, cap, rfl, h1, lt_of_block hg, fun j hj i u hu => ?_⟩
    have hi : i < 5 := (List.getElem?_eq_some_iff.1 hu).1
    rw [cell_of_row w g _ cur 36 (0, 0) hg, ← Array.getElem?_toList, Nat.zero_add, ← List.getElem?_take_of_lt (j := es.length * 5) (by omega), h4, evsL_at es j i hj hi]
    exact hu
/-- An event that is made a subject's, in a table. -/
def oneE (s t : ByteArray) (e : Ev) : Ev := ⟨e.k, s, if e.k = 3 then e.t else t, e.r, e.v⟩
theorem info36 : (Try.prog.info? 36).map (fun i => (i.zero, i.size, i.bytes)) = some (some (.agg #[.int .i64 0, .string ⟨#[]⟩, .string ⟨#[]⟩, .string ⟨#[]⟩, .string ⟨#[]⟩]), 5, 72) := by kernel_rfl
theorem ev_new (w : World) (e : Ev) : ∀ (j : Nat) (u : Value), (evL e)[j]? = some u → (w.alloc (.cells #[.int .i64 e.k, .string e.s, .string e.t, .string e.r, .string e.v] 36)).cell? ((⟨w.heap.size, 0, none⟩ : Addr).add j) = some u :=
  news_blk (HasR.new w 36 #[.int .i64 e.k, .string e.s, .string e.t, .string e.r, .string e.v])
/-- The cells of an event in the row. -/
theorem EvRow.five {w : World} {b off : Nat} {es : List Ev} {k : Nat} (h : ∀ j, j < es.length → ∀ i u, (evL es[j]!)[i]? = some u → w.cell? ⟨b, off + j * 5 + i, none⟩ = some u) (hk : k < es.length) :
    w.cell? ⟨b, off + k * 5, none⟩ = some (.int .i64 es[k]!.k) ∧ w.cell? ⟨b, off + k * 5 + 1, none⟩ = some (.string es[k]!.s) ∧ w.cell? ⟨b, off + k * 5 + 2, none⟩ = some (.string es[k]!.t) ∧ w.cell? ⟨b, off + k * 5 + 3, none⟩ = some (.string es[k]!.r) ∧ w.cell? ⟨b, off + k * 5 + 4, none⟩ = some (.string es[k]!.v) :=
  ⟨h k hk 0 _ rfl, h k hk 1 _ rfl, h k hk 2 _ rfl, h k hk 3 _ rfl, h k hk 4 _ rfl⟩
theorem take_snocE (es : List Ev) (k : Nat) (h : k < es.length) : es.take (k + 1) = es.take k ++ [es[k]!] := by
  rw [List.take_succ_eq_append_getElem h, getElem!_pos es k h]
set_option maxRecDepth 100000 in
set_option maxHeartbeats 2000000 in
theorem one_some (b off cap : Nat) (es : List Ev) (s t : ByteArray) (W : World) (hl : es.length ≤ 30) (hb : b < W.heap.size) (hx : ∀ j, j < es.length → ∀ i u, (evL es[j]!)[i]? = some u → W.cell? ⟨b, off + j * 5 + i, none⟩ = some u) :
    Calls Try.prog 28 #[.slice (some ⟨b, off, none⟩) es.length cap, .string s, .string t] W fun x w' => ∃ v, x = .returned v ∧ w'.ownsRow W.heap.size 36 5 v es.length (evsL (es.map (oneE s t))) ∧ Below W.heap.size W w' := by
  obtain ⟨i0, hi, hz0, hz1, hz2⟩ := info_parts info36
  have HX := hide hx
  clear hx
  go_enter Try.func28, Try.ntmps28
  go_wp2
  go_loopw [7, 8] (fun o i wr => ∃ k : Nat, k ≤ es.length ∧ i = .int .i64 k ∧ wr.ownsRow W.heap.size 36 5 o k (evsL ((es.take k).map (oneE s t))) ∧ Below W.heap.size W wr) (fun _ i _ => es.length - (intOf i).toNat)
  case atStart => exact ⟨0, Nat.zero_le _, rfl, World.ownsRow_nil _ _ _ _, Below.refl _ _⟩
  case round =>
    obtain ⟨k, hk, rfl, ho, hB⟩ := hrel
    by_cases hlt : k < es.length
    · obtain ⟨c0, c1, c2, c3, c4⟩ := EvRow.five HX.out hlt
      rw [← hB.cell (p := ⟨b, off + k * 5, none⟩) hb] at c0
      rw [← hB.cell (p := ⟨b, off + k * 5 + 1, none⟩) hb] at c1
      rw [← hB.cell (p := ⟨b, off + k * 5 + 2, none⟩) hb] at c2
      rw [← hB.cell (p := ⟨b, off + k * 5 + 3, none⟩) hb] at c3
      rw [← hB.cell (p := ⟨b, off + k * 5 + 4, none⟩) hb] at c4
      have HT := hide (take_snocE es k hlt)
      generalize es[k]! = e at c0 c1 c2 c3 c4 HT
      have hbase := hB.size
      obtain ⟨ek, es0, et, er, ev⟩ := e
      simp only at c0 c1 c2 c3 c4
      by_cases hk3 : ek = 3
      · subst hk3
        have HE := hide (show oneE s t ⟨3, es0, et, er, ev⟩ = ⟨3, s, et, er, ev⟩ by unfold oneE; rw [if_pos rfl])
        have hn := ev_new (wr.alloc (.cells #[.int .i64 3, .string s, .string et, .string er, .string ev] 36)) ⟨3, s, et, er, ev⟩
        rw [World.size_alloc] at hn
        have HO := hide ho
        have HN := hide hn
        clear hn ho
        go_wp2_with (at_builtin; refine wpList_append_own _ rfl _ _ 29 rfl W.heap.size 36 i0 _ 5 72 Try.underlying29 hi hz0 hz1 hz2 rfl (by decide) _ _ _ rfl ((HO.out.alloc _).alloc _) ⟨wr.heap.size + 1, 0, none⟩ 1 1 (evL ⟨3, s, et, er, ev⟩) rfl rfl HN.out (by simp [Value.oneCell', evL]) (by unfold maxLen; omega) (by omega) (by simp; omega) ?_; intro v' w3 hown' hg3 hnil3; have HG := hide hg3; clear hg3 hnil3; go_frame)
        have hg3 : ((wr.alloc (.cells #[.int .i64 3, .string s, .string et, .string er, .string ev] 36)).alloc (.cells #[.int .i64 3, .string s, .string et, .string er, .string ev] 36)).grownBy w3 u7.ownBlock := HG.out
        refine ⟨⟨k + 1, by omega, by go_num, ?_, ?_⟩, by simp [intOf]; omega⟩
        · rw [HT.out, List.map_append, List.map_singleton, evsL_snoc, HE.out]
          exact hown'
        · exact ((hB.alloc hB.size _).alloc (by simp; omega) _).grown hg3 (by simp; omega) (fun j hj => (HO.out.lt j hj).1)
      · have d3 : decide (ek = 3) = false := decide_eq_false hk3
        have HE := hide (show oneE s t ⟨ek, es0, et, er, ev⟩ = ⟨ek, s, t, er, ev⟩ by unfold oneE; rw [if_neg hk3])
        have hn := ev_new (wr.alloc (.cells #[.int .i64 ek, .string s, .string t, .string er, .string ev] 36)) ⟨ek, s, t, er, ev⟩
        rw [World.size_alloc] at hn
        have HO := hide ho
        have HN := hide hn
        clear hn ho
        go_wp2_with (at_builtin; refine wpList_append_own _ rfl _ _ 29 rfl W.heap.size 36 i0 _ 5 72 Try.underlying29 hi hz0 hz1 hz2 rfl (by decide) _ _ _ rfl ((HO.out.alloc _).alloc _) ⟨wr.heap.size + 1, 0, none⟩ 1 1 (evL ⟨ek, s, t, er, ev⟩) rfl rfl HN.out (by simp [Value.oneCell', evL]) (by unfold maxLen; omega) (by omega) (by simp; omega) ?_; intro v' w3 hown' hg3 hnil3; have HG := hide hg3; clear hg3 hnil3; go_frame)
        have hg3 : ((wr.alloc (.cells #[.int .i64 ek, .string s, .string t, .string er, .string ev] 36)).alloc (.cells #[.int .i64 ek, .string s, .string t, .string er, .string ev] 36)).grownBy w3 u7.ownBlock := HG.out
        refine ⟨⟨k + 1, by omega, by go_num, ?_, ?_⟩, by simp [intOf]; omega⟩
        · rw [HT.out, List.map_append, List.map_singleton, evsL_snoc, HE.out]
          exact hown'
        · exact ((hB.alloc hB.size _).alloc (by simp; omega) _).grown hg3 (by simp; omega) (fun j hj => (HO.out.lt j hj).1)
    · have hke : k = es.length := by omega
      have HO := hide ho
      have HB := hide hB
      clear ho hB
      go_wp2
      go_ret
      refine ⟨_, rfl, ?_, HB.out⟩
      have := HO.out
      rw [hke, List.take_length] at this
      exact this
set_option maxRecDepth 100000 in
set_option maxHeartbeats 1000000 in
theorem one_none (p : Option Addr) (c : Nat) (s t : ByteArray) (W : World) : Calls Try.prog 28 #[.slice p 0 c, .string s, .string t] W fun x w' => x = .returned (.slice none 0 0) ∧ w' = W := by
  go_enter Try.func28, Try.ntmps28
  go_wp2
  refine wp_loop_rounds 1 ?_
  rw [rounds_succ]
  go_wp2
  go_ret
  exact ⟨rfl, rfl⟩
theorem one_any (v : Value) (es : List Ev) (s t : ByteArray) (W : World) (hv : EvRow W v es) (hl : es.length ≤ 30) :
    Calls Try.prog 28 #[v, .string s, .string t] W fun x w' => ∃ u, x = .returned u ∧ EvRow w' u (es.map (oneE s t)) ∧ Below W.heap.size W w' := by
  rcases hv with ⟨⟨ao, cap, rfl⟩, rfl⟩ | ⟨b, off, cap, rfl, hc, hb, hx⟩
  · refine (one_none ao cap s t W).mono ?_
    rintro x w' ⟨rfl, rfl⟩
    exact ⟨_, rfl, .inl ⟨⟨_, _, rfl⟩, rfl⟩, Below.refl _ _⟩
  · refine (one_some b off cap es s t W hl hb hx).mono ?_
    rintro x w' ⟨u, rfl, ho, hB⟩
    refine ⟨u, rfl, EvRow.of_owns (base := W.heap.size) ?_, hB⟩
    rw [List.length_map]
    exact ho
end Go.Proofs.Ytpfihhilgeihoaa
