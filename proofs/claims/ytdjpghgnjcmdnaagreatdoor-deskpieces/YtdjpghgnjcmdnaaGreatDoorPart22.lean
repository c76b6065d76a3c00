/- Texts of this proof, one behind the other. -/
import Derived.Shelf.SlIter.Collect
import Derived.Shelf.SlSortFuncK.WholeK
import Derived.Test.YtdjpghgnjcmdnaaGreatDoorPart21
/- What happens at a source, and is told. -/
namespace Go.Proofs.YtdjpghgnjcmdnaaGreatDoor
open Go.RowKit
attribute [local go_sem ↓] Go.wp_at_zero Go.wp_at_succ
theorem Src.oldL {B : Nat} {w : World} {sb fb vb : Nat} {mt mv : Option Nat} {v : Value} {nt nv : Nat} {sec : ByteArray} {σ : Kept} {τ : Tab} {rs : List Rec} (h : Src B w sb fb vb mt mv v nt nv sec σ τ rs) : ∀ j ∈ fb :: vb :: (mv.toList ++ v.ownBlock.toList), j < w.heap.size := by
  intro j hmem
  rcases List.mem_cons.1 hmem with rfl | hmem
  · exact h.feed.row.lt
  · rcases List.mem_cons.1 hmem with rfl | hmem
    · exact h.keys.row.lt
    · rcases List.mem_append.1 hmem with e | e
      · obtain ⟨D, ho, _⟩ := h.keys.held j (by simpa using e)
        exact ho.lt
      · obtain ⟨cur, hr⟩ := h.feed.block (g := j) (by simpa using e)
        exact hr.lt
theorem tell_few {σ : Kept} {e : Ev} {n : Nat} (h : ∀ l, (σ l).1 ≤ n) : ∀ l, (tellK σ e l).1 ≤ n + 1 := by
  unfold tellK
  split
  · intro l; exact Nat.le_succ_of_le (gone_few h l)
  · exact made_few h
theorem tell_fit {sec : ByteArray} {σ : Kept} {rs : List Rec} {e : Ev} {n : Nat} (hr : rightB e = true) (hl : rs.length < 100) (h : ∀ l, (σ l).1 ≤ n) (hn : n < 1000) (hf : ∀ r ∈ rs, Fit r) : ∀ r ∈ rs ++ [tellR sec σ rs e], Fit r := by
  intro r hmem
  rcases List.mem_append.1 hmem with hm | hm
  · exact hf r hm
  · simp at hm
    subst hm
    have nf := newR_fit (rs := rs) (e := e) hl (subj_size hr).1
    have ht := text_size hr
    unfold tellR
    split
    · exact ⟨nf.q, nf.g, nf.s, nf.p, by show (textB e).size ≤ 1000; omega⟩
    · refine ⟨nf.q, ?_, nf.s, nf.p, ?_⟩
      · have := made_few (s := (newR rs e).s.data.toList) h (newR rs e).s.data.toList
        show (made σ _ _).1 < 1000000
        omega
      · show (sealB _ _ _ _).size ≤ 1000
        rw [sealB_size]
        omega
/-- A box that is none of its blocks is turned. -/
theorem Src.aside {B : Nat} {w w' : World} {sb fb vb j : Nat} {mt mv : Option Nat} {v : Value} {nt nv : Nat} {sec : ByteArray} {σ : Kept} {τ : Tab} {rs : List Rec} {cs : Array Value} (h : Src B w sb fb vb mt mv v nt nv sec σ τ rs) (t : Stirred [j] w w') (hx : HasR w j 74 cs) (hG : ∀ g, v.ownBlock = some g → g ≠ j) : Src B w' sb fb vb mt mv v nt nv sec σ τ rs := by
  have hT : ∀ m, mt = some m → m ∉ [j] := fun m e => by
    obtain ⟨D, ho, _⟩ := h.tab.held m e
    have := hx.noMap ho
    simp; exact fun e1 => this e1.symm
  have hM : ∀ m, mv = some m → m ∉ [j] := fun m e => by
    obtain ⟨D, ho, _⟩ := h.keys.held m e
    have := hx.noMap ho
    simp; exact fun e1 => this e1.symm
  exact ⟨h.tab.turned t (by simp; exact h.tab.row.apartT hx (by decide)) hT, h.feed.turned t (by simp; exact h.feed.row.apartT hx (by decide)) (fun g hg => by simp; exact hG g hg), h.keys.turned t (by simp; exact h.keys.row.apartT hx (by decide)) hM, h.few, h.apart, h.fit, Nat.le_trans h.base t.size, h.lowS, h.lowF, h.lowV, h.lowT, h.lowM, h.lowG⟩
/-- The blocks that are a source's own. -/
def ownS (sb fb vb : Nat) (mt mv : Option Nat) (v : Value) : List Nat := sb :: fb :: vb :: (mt.toList ++ (mv.toList ++ v.ownBlock.toList))
theorem ownS_f {sb fb vb : Nat} {mt mv : Option Nat} {v : Value} (j : Nat) (hj : j ∈ fb :: vb :: (mv.toList ++ v.ownBlock.toList)) : j ∈ ownS sb fb vb mt mv v := by
  unfold ownS
  simp only [List.mem_cons, List.mem_append] at hj ⊢
  rcases hj with h | h | h | h <;> simp [h]
theorem ownS_t {sb fb vb : Nat} {mt mv : Option Nat} {v : Value} (j : Nat) (hj : j ∈ sb :: mt.toList) : j ∈ ownS sb fb vb mt mv v := by
  unfold ownS
  simp only [List.mem_cons, List.mem_append] at hj ⊢
  rcases hj with h | h <;> simp [h]
theorem Src.lowO {B : Nat} {w : World} {sb fb vb : Nat} {mt mv : Option Nat} {v : Value} {nt nv : Nat} {sec : ByteArray} {σ : Kept} {τ : Tab} {rs : List Rec} (h : Src B w sb fb vb mt mv v nt nv sec σ τ rs) : ∀ j ∈ ownS sb fb vb mt mv v, B ≤ j := by
  intro j hj
  unfold ownS at hj
  simp only [List.mem_cons, List.mem_append] at hj
  rcases hj with e | e | e | e | e | e
  · rw [e]; exact h.lowS
  · rw [e]; exact h.lowF
  · rw [e]; exact h.lowV
  · exact h.lowT j (by simpa using e)
  · exact h.lowM j (by simpa using e)
  · exact h.lowG j (by simpa using e)
theorem Src.oldO {B : Nat} {w : World} {sb fb vb : Nat} {mt mv : Option Nat} {v : Value} {nt nv : Nat} {sec : ByteArray} {σ : Kept} {τ : Tab} {rs : List Rec} (h : Src B w sb fb vb mt mv v nt nv sec σ τ rs) : ∀ j ∈ ownS sb fb vb mt mv v, j < w.heap.size := by
  intro j hj
  unfold ownS at hj
  simp only [List.mem_cons, List.mem_append] at hj
  rcases hj with e | e | e | e | e | e
  · rw [e]; exact h.tab.row.lt
  · exact h.oldL j (by simp [e])
  · exact h.oldL j (by simp [e])
  · obtain ⟨D, ho, _⟩ := h.tab.held j (by simpa using e)
    exact ho.lt
  · exact h.oldL j (by simp [e])
  · exact h.oldL j (by simp [e])
/-- Blocks that are none of its own are turned. -/
theorem Src.turned {B : Nat} {w w' : World} {sb fb vb : Nat} {mt mv : Option Nat} {v : Value} {nt nv : Nat} {sec : ByteArray} {σ : Kept} {τ : Tab} {rs : List Rec} {L : List Nat} (h : Src B w sb fb vb mt mv v nt nv sec σ τ rs) (t : Stirred L w w') (hL : ∀ j ∈ ownS sb fb vb mt mv v, j ∉ L) : Src B w' sb fb vb mt mv v nt nv sec σ τ rs :=
  ⟨h.tab.turned t (hL sb (by simp [ownS])) (fun m e => hL m (by simp [ownS, e])), h.feed.turned t (hL fb (by simp [ownS])) (fun g e => hL g (by simp [ownS, e])), h.keys.turned t (hL vb (by simp [ownS])) (fun m e => hL m (by simp [ownS, e])), h.few, h.apart, h.fit, Nat.le_trans h.base t.size, h.lowS, h.lowF, h.lowV, h.lowT, h.lowM, h.lowG⟩
set_option maxRecDepth 100000 in
set_option maxHeartbeats 8000000 in
theorem do_ok (B : Nat) (w : World) (sb fb vb : Nat) (mt mv : Option Nat) (v : Value) (nt nv : Nat) (sec : ByteArray) (σ : Kept) (τ : Tab) (rs : List Rec) (e : Ev) (h : Src B w sb fb vb mt mv v nt nv sec σ τ rs) (he : Brief e) (hr : rightB e = true) (href : refuseB τ e = 0) (hg : e.k = 3 → (σ e.s.data.toList).2 = true) (hp : sec.size ≤ 60) (hlen : rs.length < 100) (hnv : nv < 1000) (hnt : nt < 1000) (hL : TabL w) (hKB : ∀ w', Below B w w' → TabK w') :
    Calls Tryz.prog 43 #[.pointer (some ⟨sb, 0, none⟩), .agg #[.int .i64 e.k, .string e.s, .string e.t, .string e.r, .string e.v]] w fun x w' => x = .returned (.tuple #[.agg (recA (tellR sec σ rs e)), .nilIface]) ∧ (∃ mt' m v', Src B w' sb fb vb mt' (some m) v' (nt + 1) (nv + 1) sec (tellK σ e) (app e τ) (rs ++ [tellR sec σ rs e]) ∧ ∀ j ∈ ownS sb fb vb mt' (some m) v', j ∈ ownS sb fb vb mt mv v ∨ w.heap.size ≤ j) ∧ Stirred (ownS sb fb vb mt mv v) w w' := by
  have bel : Below w.heap.size w ((w.alloc (.cells #[.int .i64 e.k, .string e.s, .string e.t, .string e.r, .string e.v] 69)).alloc (.cells #[.int .i64 0, .string ⟨#[]⟩, .int .i64 0, .string ⟨#[]⟩, .string ⟨#[]⟩] 74)) := ((Below.refl _ w).alloc (Nat.le_refl _) _).alloc (by simp) _
  have U := hide (refuse_any sb _ _ mt nt τ e _ he (h.tab.below bel))
  rw [href, errV_yes] at U
  have E3 := hide ((HasR.new w 69 #[.int .i64 e.k, .string e.s, .string e.t, .string e.r, .string e.v]).alloc (.cells #[.int .i64 0, .string ⟨#[]⟩, .int .i64 0, .string ⟨#[]⟩, .string ⟨#[]⟩] 74))
  have E4 := hide (HasR.new (w.alloc (.cells #[.int .i64 e.k, .string e.s, .string e.t, .string e.r, .string e.v] 69)) 74 #[.int .i64 0, .string ⟨#[]⟩, .int .i64 0, .string ⟨#[]⟩, .string ⟨#[]⟩])
  rw [World.size_alloc] at E4
  have hq := ptrS_nil sb
  have hne2 := nilNe
  have FEW := hide (tell_few (e := e) h.few)
  have FIT := hide (tell_fit (sec := sec) (σ := σ) hr hlen h.few hnv h.fit)
  have OLD := hide h.oldL
  have BL := hide bel
  have TC := hide (fun wx (hb : Below w.heap.size w wx) => tell_ok wx fb vb v rs mv sec nv σ e (h.still hb).feed (h.still hb).keys hr hg hp h.fit hlen hnv h.few (hKB wx (hb.mono h.base)) (hL.below hb hL.lt) (fun w' ts => hKB w' ((hb.mono h.base).trans (ts.below (h.still hb).base (fun j hj => (h.still hb).lowL j (by rcases List.mem_cons.1 hj with e1 | e1 <;> simp [e1]))))))
  have eo : errOf e = .nilIface := by unfold errOf; rw [if_pos hr]
  have AP : Hid (∀ wx mv' v' nv' σ' rs', Src B wx sb fb vb mt mv' v' nt nv' sec σ' τ rs' → Calls Tryz.prog 79 #[.pointer (some ⟨sb, 2, none⟩), .agg #[.int .i64 e.k, .string e.s, .string e.t, .string e.r, .string e.v]] wx fun x w' => x = .returned .nilIface ∧ ∃ mt', Upd wx w' sb 112 #[.pointer (some ⟨vb, 0, none⟩), .pointer (some ⟨fb, 0, none⟩)] mt mt' (nt + 1) (app e τ)) := fun wx mv' v' nv' σ' rs' hs => by
    have := apply_any sb 112 _ mt e nt τ wx he hnt hs.tab
    rw [eo] at this
    exact this
  have NIN := hide (fun j (hj : w.heap.size ≤ j) (hmem : j ∈ sb :: mt.toList) => (show False from by
    have hs1 := h.tab.row.lt
    rcases List.mem_cons.1 hmem with e1 | e1
    · omega
    · obtain ⟨D, ho, _⟩ := h.tab.held j (by simpa using e1)
      have := ho.lt
      omega))
  unfold recA at TC
  obtain ⟨T, hT⟩ : ∃ T, T = tellR sec σ rs e := ⟨_, rfl⟩
  rw [← hT] at TC FIT
  have HTT := hide hT
  have h0 := hide h
  have hsb := h.tab.row.lt
  have hbase := h.base
  clear bel h href hT eo hKB hL
  go_enter Tryz.func43, Tryz.ntmps43
  go_upto_region 6 with (go_at_call 77; (with_reducible refine U.out.mono ?_); rintro x w1 ⟨rfl, hb1⟩; have B1 := hide (BL.out.trans (hb1.mono BL.out.size)); have X3 := hide (E3.out.below hb1 E3.out.lt); have X4 := hide (E4.out.below hb1 E4.out.lt); clear hb1)
  have f1 : w1.cell? ⟨sb, 1, none⟩ = some (.pointer (some ⟨fb, 0, none⟩)) := (h0.out.still B1.out).tab.row.cell 1
  have y0 : w1.cell? ⟨w.heap.size, 0, none⟩ = some (.int .i64 e.k) := X3.out.cell 0
  have y1 : w1.cell? ⟨w.heap.size, 1, none⟩ = some (.string e.s) := X3.out.cell 1
  have y2 : w1.cell? ⟨w.heap.size, 2, none⟩ = some (.string e.t) := X3.out.cell 2
  have y3 : w1.cell? ⟨w.heap.size, 3, none⟩ = some (.string e.r) := X3.out.cell 3
  have y4 : w1.cell? ⟨w.heap.size, 4, none⟩ = some (.string e.v) := X3.out.cell 4
  have hl1 := B1.out.size
  have hx3 := X3.out.lt
  have hx4 := X4.out.lt
  have ne1 : w1.heap.size ≠ w.heap.size := by omega
  have ne2 : w.heap.size ≠ w1.heap.size := by omega
  have ne5 : w1.heap.size ≠ sb := by omega
  have ne6 : sb ≠ w1.heap.size := by omega
  go_cut [7, 8] (fun s7 s8 wx => ∃ (B7 m : Nat) (v' : Value), s7 = .pointer (some ⟨B7, 0, none⟩) ∧ s8 = .nilIface ∧ w1.heap.size ≤ B7 ∧ HasR wx B7 74 #[.int .i64 (T.q : Int), .string T.s, .int .i64 (T.g : Int), .string T.p, .string T.d] ∧ HasR wx (w.heap.size + 1) 74 #[.int .i64 0, .string ⟨#[]⟩, .int .i64 0, .string ⟨#[]⟩, .string ⟨#[]⟩] ∧ HasR wx w.heap.size 69 #[.int .i64 e.k, .string e.s, .string e.t, .string e.r, .string e.v] ∧ Src B wx sb fb vb mt (some m) v' nt (nv + 1) sec (tellK σ e) τ (rs ++ [T]) ∧ Stirred (ownS sb fb vb mt mv v) w wx ∧ Hid (∀ g, v'.ownBlock = some g → g ≠ w.heap.size + 1) ∧ Hid (∀ j, (j = m ∨ v'.ownBlock = some j) → j ∈ ownS sb fb vb mt mv v ∨ w.heap.size ≤ j))
  case first =>
    go_region_held3 (fun wx => wx.cell? ⟨sb, 1, none⟩ = some (.pointer (some ⟨fb, 0, none⟩)) ∧ wx.cell? ⟨w.heap.size, 0, none⟩ = some (.int .i64 e.k) ∧ wx.cell? ⟨w.heap.size, 1, none⟩ = some (.string e.s) ∧ wx.cell? ⟨w.heap.size, 2, none⟩ = some (.string e.t) ∧ wx.cell? ⟨w.heap.size, 3, none⟩ = some (.string e.r) ∧ wx.cell? ⟨w.heap.size, 4, none⟩ = some (.string e.v)) (first | (with_reducible exact K2.out) | go_keep)
      (first
      | (go_at_call 78; (with_reducible refine (TC.out _ B1.out.drew).mono ?_); rintro x w2 ⟨rfl, m, hpm, hmm, v', hfv, hvv, hss⟩; have S2 := hide ((h0.out.still B1.out.drew).tell hpm (by rcases hmm with e1 | e1; (exact .inl e1); (exact .inr e1)) hfv hvv hss FEW.out FIT.out); have H3 := hide (X3.out.drew.turned hss (fun hm1 => by have := OLD.out _ hm1; omega)); have H4 := hide (X4.out.drew.turned hss (fun hm1 => by have := OLD.out _ hm1; omega)); have g1 : w2.cell? ⟨sb, 1, none⟩ = some (.pointer (some ⟨fb, 0, none⟩)) := S2.out.1.tab.row.cell 1; have k0 : w2.cell? ⟨w.heap.size, 0, none⟩ = some (.int .i64 e.k) := H3.out.cell 0; have k1 : w2.cell? ⟨w.heap.size, 1, none⟩ = some (.string e.s) := H3.out.cell 1; have k2 : w2.cell? ⟨w.heap.size, 2, none⟩ = some (.string e.t) := H3.out.cell 2; have k3 : w2.cell? ⟨w.heap.size, 3, none⟩ = some (.string e.r) := H3.out.cell 3; have k4 : w2.cell? ⟨w.heap.size, 4, none⟩ = some (.string e.v) := H3.out.cell 4; have K2 := hide (And.intro g1 (And.intro k0 (And.intro k1 (And.intro k2 (And.intro k3 k4))))); have lt2 := H4.out.lt; have lt3 := S2.out.1.tab.row.lt; have ne3 : w2.heap.size ≠ w.heap.size := (by omega); have ne4 : w.heap.size ≠ w2.heap.size := (by omega); have ne7 : w2.heap.size ≠ sb := (by omega); have ne8 : sb ≠ w2.heap.size := (by omega); have hw2 := hss.size; have HG4 := hide (fun g (hgo : v'.ownBlock = some g) => (show g ≠ w.heap.size + 1 from by rcases hvv with e1 | e1; (have := OLD.out g (List.mem_cons_of_mem _ (List.mem_cons_of_mem _ (List.mem_append_right _ (by rw [← e1, hgo]; simp)))); omega); (have := e1 g hgo; simp at this; omega))); have B2 := hide ((Stirred.of_below B1.out.drew (ownS sb fb vb mt mv v)).andThen hss (fun j hj => .inl (ownS_f j hj))); have HN := hide (fun j (hj : j = m ∨ v'.ownBlock = some j) => (show j ∈ ownS sb fb vb mt mv v ∨ w.heap.size ≤ j from by rcases hj with rfl | hj; (rcases hmm with e1 | ⟨_, e1⟩; (left; simp [ownS, e1]); (right; have hz := B1.out.size; simp at e1; omega)); (rcases hvv with e1 | e1; (left; rw [e1] at hj; simp [ownS, hj]); (right; have hz := B1.out.size; have e2 := e1 j hj; simp at e2; omega)))); clear hpm hmm hfv hvv hss)
      | (go_at_call 78; (with_reducible refine (TC.out _ (B1.out.alloc B1.out.size (.cells #[.int .i64 0, .string ⟨#[]⟩, .int .i64 0, .string ⟨#[]⟩, .string ⟨#[]⟩] 74)).drew).mono ?_); rintro x w2 ⟨rfl, m, hpm, hmm, v', hfv, hvv, hss⟩; have S2 := hide ((h0.out.still (B1.out.alloc B1.out.size (.cells #[.int .i64 0, .string ⟨#[]⟩, .int .i64 0, .string ⟨#[]⟩, .string ⟨#[]⟩] 74)).drew).tell hpm (by rcases hmm with e1 | e1; (exact .inl e1); (exact .inr e1)) hfv hvv hss FEW.out FIT.out); have H3 := hide ((X3.out.alloc (.cells #[.int .i64 0, .string ⟨#[]⟩, .int .i64 0, .string ⟨#[]⟩, .string ⟨#[]⟩] 74)).drew.turned hss (fun hm1 => by have := OLD.out _ hm1; omega)); have H4 := hide ((X4.out.alloc (.cells #[.int .i64 0, .string ⟨#[]⟩, .int .i64 0, .string ⟨#[]⟩, .string ⟨#[]⟩] 74)).drew.turned hss (fun hm1 => by have := OLD.out _ hm1; omega)); have g1 : w2.cell? ⟨sb, 1, none⟩ = some (.pointer (some ⟨fb, 0, none⟩)) := S2.out.1.tab.row.cell 1; have k0 : w2.cell? ⟨w.heap.size, 0, none⟩ = some (.int .i64 e.k) := H3.out.cell 0; have k1 : w2.cell? ⟨w.heap.size, 1, none⟩ = some (.string e.s) := H3.out.cell 1; have k2 : w2.cell? ⟨w.heap.size, 2, none⟩ = some (.string e.t) := H3.out.cell 2; have k3 : w2.cell? ⟨w.heap.size, 3, none⟩ = some (.string e.r) := H3.out.cell 3; have k4 : w2.cell? ⟨w.heap.size, 4, none⟩ = some (.string e.v) := H3.out.cell 4; have K2 := hide (And.intro g1 (And.intro k0 (And.intro k1 (And.intro k2 (And.intro k3 k4))))); have lt2 := H4.out.lt; have lt3 := S2.out.1.tab.row.lt; have ne3 : w2.heap.size ≠ w.heap.size := (by omega); have ne4 : w.heap.size ≠ w2.heap.size := (by omega); have ne7 : w2.heap.size ≠ sb := (by omega); have ne8 : sb ≠ w2.heap.size := (by omega); have hw2 := hss.size; have HG4 := hide (fun g (hgo : v'.ownBlock = some g) => (show g ≠ w.heap.size + 1 from by rcases hvv with e1 | e1; (have := OLD.out g (List.mem_cons_of_mem _ (List.mem_cons_of_mem _ (List.mem_append_right _ (by rw [← e1, hgo]; simp)))); omega); (have := e1 g hgo; simp at this; omega))); have B2 := hide ((Stirred.of_below (B1.out.alloc B1.out.size (.cells #[.int .i64 0, .string ⟨#[]⟩, .int .i64 0, .string ⟨#[]⟩, .string ⟨#[]⟩] 74)).drew (ownS sb fb vb mt mv v)).andThen hss (fun j hj => .inl (ownS_f j hj))); have HGG := hide (fun g (hgo : v'.ownBlock = some g) => (show g ≠ w1.heap.size from by rcases hvv with e1 | e1; (have := OLD.out g (List.mem_cons_of_mem _ (List.mem_cons_of_mem _ (List.mem_append_right _ (by rw [← e1, hgo]; simp)))); omega); (have := e1 g hgo; simp at this; omega))); have X7 := hide ((HasR.new w1 74 #[.int .i64 0, .string ⟨#[]⟩, .int .i64 0, .string ⟨#[]⟩, .string ⟨#[]⟩]).drew.turned hss (fun hm1 => by have := OLD.out _ hm1; omega)); have z0 : w2.cell? ⟨w1.heap.size, 0, none⟩ = some (.int .i64 0) := X7.out.cell 0; have z1 : w2.cell? ⟨w1.heap.size, 1, none⟩ = some (.string ⟨#[]⟩) := X7.out.cell 1; have z2 : w2.cell? ⟨w1.heap.size, 2, none⟩ = some (.int .i64 0) := X7.out.cell 2; have z3 : w2.cell? ⟨w1.heap.size, 3, none⟩ = some (.string ⟨#[]⟩) := X7.out.cell 3; have z4 : w2.cell? ⟨w1.heap.size, 4, none⟩ = some (.string ⟨#[]⟩) := X7.out.cell 4; have o0 : w2.frozen? ⟨w1.heap.size, 0, none⟩ = false := X7.out.free 0; have o1 : w2.frozen? ⟨w1.heap.size, 1, none⟩ = false := X7.out.free 1; have o2 : w2.frozen? ⟨w1.heap.size, 2, none⟩ = false := X7.out.free 2; have o3 : w2.frozen? ⟨w1.heap.size, 3, none⟩ = false := X7.out.free 3; have o4 : w2.frozen? ⟨w1.heap.size, 4, none⟩ = false := X7.out.free 4; have HN := hide (fun j (hj : j = m ∨ v'.ownBlock = some j) => (show j ∈ ownS sb fb vb mt mv v ∨ w.heap.size ≤ j from by rcases hj with rfl | hj; (rcases hmm with e1 | ⟨_, e1⟩; (left; simp [ownS, e1]); (right; have hz := B1.out.size; simp at e1; omega)); (rcases hvv with e1 | e1; (left; rw [e1] at hj; simp [ownS, hj]); (right; have hz := B1.out.size; have e2 := e1 j hj; simp at e2; omega)))); clear hpm hmm hfv hvv hss))
    all_goals
      go_wp2
      go_meet
      first
        | exact ⟨w1.heap.size, m, v', rfl, rfl, Nat.le_refl _, HasR.five X7.out _ _ _ _ _, H4.out.turned (stir5 w2 w1.heap.size _ _ _ _ _) (by simp; omega), H3.out.turned (stir5 w2 w1.heap.size _ _ _ _ _) (by simp; omega), S2.out.1.aside (stir5 w2 w1.heap.size _ _ _ _ _) X7.out HGG.out, B2.out.andThen (stir5 w2 w1.heap.size _ _ _ _ _) (fun j hj => .inr (by simp at hj; omega)), HG4, HN⟩
        | exact ⟨w2.heap.size, m, v', rfl, rfl, hw2, HasR.new w2 74 _, H4.out.alloc _, H3.out.alloc _, S2.out.1.still ((Below.refl _ w2).alloc (Nat.le_refl _) _), B2.out.then_below ((Below.refl _ w2).alloc (Nat.le_refl _) _), HG4, HN⟩
  case rest =>
    clear f1 y0 y1 y2 y3 y4 ne1 ne2 ne5 ne6 TC U
    obtain ⟨B7, m, v', rfl, rfl, hB7, hX7, hX4, hX3, hS, hBw, HGx, HNx⟩ := hcut
    have S3 := hide (hS.still (Below.refl _ wc).drew)
    have BW := hide (hBw.drew)
    have D7 := hide hX7.drew
    have D4 := hide hX4.drew
    have D3 := hide hX3.drew
    have y0 : wc.cell? ⟨w.heap.size, 0, none⟩ = some (.int .i64 e.k) := hX3.cell 0
    have y1 : wc.cell? ⟨w.heap.size, 1, none⟩ = some (.string e.s) := hX3.cell 1
    have y2 : wc.cell? ⟨w.heap.size, 2, none⟩ = some (.string e.t) := hX3.cell 2
    have y3 : wc.cell? ⟨w.heap.size, 3, none⟩ = some (.string e.r) := hX3.cell 3
    have y4 : wc.cell? ⟨w.heap.size, 4, none⟩ = some (.string e.v) := hX3.cell 4
    have AC := hide (AP.out _ _ _ _ _ _ S3.out)
    clear hX7 hX4 hX3 hS hBw
    go_upto_region 9 with fail
    go_region_held3 (fun wx => wx.cell? ⟨w.heap.size, 0, none⟩ = some (.int .i64 e.k) ∧ wx.cell? ⟨w.heap.size, 1, none⟩ = some (.string e.s) ∧ wx.cell? ⟨w.heap.size, 2, none⟩ = some (.string e.t) ∧ wx.cell? ⟨w.heap.size, 3, none⟩ = some (.string e.r) ∧ wx.cell? ⟨w.heap.size, 4, none⟩ = some (.string e.v)) (first | (with_reducible exact K5.out) | go_keep)
      ((go_at_call 79; (with_reducible refine AC.out.mono ?_); rintro x w5 ⟨rfl, mt', hu⟩; have S5 := hide (S3.out.apply hu); have H7 := hide (D7.out.turned hu.2.2 (fun hm1 => NIN.out _ (by omega) hm1)); have H4 := hide (D4.out.turned hu.2.2 (fun hm1 => NIN.out _ (by omega) hm1)); have H3 := hide (D3.out.turned hu.2.2 (fun hm1 => NIN.out _ (Nat.le_refl _) hm1)); have k0 : w5.cell? ⟨w.heap.size, 0, none⟩ = some (.int .i64 e.k) := H3.out.cell 0; have k1 : w5.cell? ⟨w.heap.size, 1, none⟩ = some (.string e.s) := H3.out.cell 1; have k2 : w5.cell? ⟨w.heap.size, 2, none⟩ = some (.string e.t) := H3.out.cell 2; have k3 : w5.cell? ⟨w.heap.size, 3, none⟩ = some (.string e.r) := H3.out.cell 3; have k4 : w5.cell? ⟨w.heap.size, 4, none⟩ = some (.string e.v) := H3.out.cell 4; have K5 := hide (And.intro k0 (And.intro k1 (And.intro k2 (And.intro k3 k4)))); have HU := hide hu.2.2; have HM := hide hu.2.1; clear hu))
    have c0 : w5.cell? ⟨B7, 0, none⟩ = some (.int .i64 (T.q : Int)) := H7.out.cell 0
    have c1 : w5.cell? ⟨B7, 1, none⟩ = some (.string T.s) := H7.out.cell 1
    have c2 : w5.cell? ⟨B7, 2, none⟩ = some (.int .i64 (T.g : Int)) := H7.out.cell 2
    have c3 : w5.cell? ⟨B7, 3, none⟩ = some (.string T.p) := H7.out.cell 3
    have c4 : w5.cell? ⟨B7, 4, none⟩ = some (.string T.d) := H7.out.cell 4
    have d0 : w5.cell? ⟨w.heap.size + 1, 0, none⟩ = some (.int .i64 0) := H4.out.cell 0
    have d1 : w5.cell? ⟨w.heap.size + 1, 1, none⟩ = some (.string ⟨#[]⟩) := H4.out.cell 1
    have d2 : w5.cell? ⟨w.heap.size + 1, 2, none⟩ = some (.int .i64 0) := H4.out.cell 2
    have d3 : w5.cell? ⟨w.heap.size + 1, 3, none⟩ = some (.string ⟨#[]⟩) := H4.out.cell 3
    have d4 : w5.cell? ⟨w.heap.size + 1, 4, none⟩ = some (.string ⟨#[]⟩) := H4.out.cell 4
    have o0 : w5.frozen? ⟨w.heap.size + 1, 0, none⟩ = false := H4.out.free 0
    have o1 : w5.frozen? ⟨w.heap.size + 1, 1, none⟩ = false := H4.out.free 1
    have o2 : w5.frozen? ⟨w.heap.size + 1, 2, none⟩ = false := H4.out.free 2
    have o3 : w5.frozen? ⟨w.heap.size + 1, 3, none⟩ = false := H4.out.free 3
    have o4 : w5.frozen? ⟨w.heap.size + 1, 4, none⟩ = false := H4.out.free 4
    go_wp2
    have XF := HasR.five H4.out (.int .i64 (T.q : Int)) (.string T.s) (.int .i64 (T.g : Int)) (.string T.p) (.string T.d)
    have TF := stir5 w5 (w.heap.size + 1) (.int .i64 (T.q : Int)) (.string T.s) (.int .i64 (T.g : Int)) (.string T.p) (.string T.d)
    generalize ((((w5.setCell ⟨w.heap.size + 1, 0, none⟩ (.int .i64 (T.q : Int))).setCell ⟨w.heap.size + 1, 1, none⟩ (.string T.s)).setCell ⟨w.heap.size + 1, 2, none⟩ (.int .i64 (T.g : Int))).setCell ⟨w.heap.size + 1, 3, none⟩ (.string T.p)).setCell ⟨w.heap.size + 1, 4, none⟩ (.string T.d) = wf at XF TF ⊢
    have z0 : wf.cell? ⟨w.heap.size + 1, 0, none⟩ = some (.int .i64 (T.q : Int)) := XF.cell 0
    have z1 : wf.cell? ⟨w.heap.size + 1, 1, none⟩ = some (.string T.s) := XF.cell 1
    have z2 : wf.cell? ⟨w.heap.size + 1, 2, none⟩ = some (.int .i64 (T.g : Int)) := XF.cell 2
    have z3 : wf.cell? ⟨w.heap.size + 1, 3, none⟩ = some (.string T.p) := XF.cell 3
    have z4 : wf.cell? ⟨w.heap.size + 1, 4, none⟩ = some (.string T.d) := XF.cell 4
    refine bodyPost_ret (v := .tuple #[.agg #[.int .i64 (T.q : Int), .string T.s, .int .i64 (T.g : Int), .string T.p, .string T.d], .nilIface]) (by simp [results, Tryz.results43, go_sem, z0, z1, z2, z3, z4]) rfl ?_
    rw [← HTT.out]
    have OWN : ∀ j ∈ ownS sb fb vb mt' (some m) v', j ∈ ownS sb fb vb mt mv v ∨ w.heap.size ≤ j := by
      intro j hj
      have hsz := BW.out.size
      unfold ownS at hj
      simp only [List.mem_cons, List.mem_append] at hj
      rcases hj with e1 | e1 | e1 | e1 | e1 | e1
      · left; simp [ownS, e1]
      · left; simp [ownS, e1]
      · left; simp [ownS, e1]
      · rcases HM.out with e2 | ⟨_, y, e2, hl⟩
        · left; rw [e2] at e1; unfold ownS; simp only [List.mem_cons, List.mem_append]; exact .inr (.inr (.inr (.inl e1)))
        · right; rw [e2] at e1; simp at e1; simp at hsz hl; omega
      · exact HNx.out j (.inl (by simpa [eq_comm] using e1))
      · exact HNx.out j (.inr (by simpa using e1))
    exact ⟨rfl, ⟨mt', m, v', S5.out.1.aside TF H4.out HGx.out, OWN⟩, (BW.out.andThen HU.out (fun j hj => .inl (ownS_t j hj))).andThen TF (fun j hj => .inr (by simp at hj; omega))⟩
end Go.Proofs.YtdjpghgnjcmdnaaGreatDoor

/- The library's Values over a map of rows: each row comes once, in some order. -/
namespace Go.Proofs.YtdjpghgnjcmdnaaGreatDoor
open Go.RowKit Go.Maps Go.Sort Go.Shelf
/-- All rows, in some order. -/
def AllOf (σ : Tab) (cs : List Cl) : Prop := Apart cs ∧ ∀ c : Cl, c ∈ cs ↔ σ c.t c.r = some (c.s, c.v)
set_option maxRecDepth 100000 in
set_option maxHeartbeats 2000000 in
theorem values1_in (F : Fence) (n : Nat) (h57 : F.fn 161) (hro : F.round = none) (hn : 1 ≤ n) (l Bm b nn : Nat) (D0 : DataW Unit) (σ : Tab) (hR : Reads D0 σ) (J : List Cl → World → Prop)
    (hY : ∀ pre x W, J pre W → pre.length < Maps.size D0 → YieldAt F (n - 1) Tryz.prog l #[cellV x] W fun e W' => e = .returned (.bool true) ∧ J (pre ++ [x]) W' ∧ KeepsWalks W W')
    (W : World) (hJ : AbidesFrom W.heap.size J) (hm : W.cell? ⟨Bm, 0, none⟩ = some (.map (some b))) (hown : W.ownsMap Tryz.prog 180 cellElem b nn D0) (h0 : J [] W) :
    CallsIn F n Tryz.prog 161 #[.func (.yield l) #[] #[], .pointer (some ⟨Bm, 0, none⟩)] W fun e W' => (∃ v, e = .returned v) ∧ ∃ cs : List Cl, (AllOf σ cs ∧ cs.length ≤ Maps.size D0) ∧ J cs W' := by
  refine callsIn_of_wp Tryz.func161 rfl h57 ?_ hro
  simp only [Tryz.ntmps161, List.size_toArray, List.length_cons, List.length_nil, Nat.reduceAdd, Nat.reduceSub, Array.replicate_succ, Array.replicate_zero, List.push_toArray, List.append_toArray, List.nil_append, List.cons_append]
  gi_wp2_with (first
    | (gi_at_range; refine wpListIn_range_own _ rfl _ 108 rfl 180 129 law69 Tryz.underlying108 _ b nn _ rfl hown ?_; intro w0 hrg0 hg0 hs0)
    | gi_in)
  go_frame
  gi_loopw [4] (fun _ wr => ∃ (left : Lit → Bool) (cnt : Nat) (cs : List Cl), wr.ranges Tryz.prog 180 cellElem b W.heap.size nn D0 left cnt ∧ cs.length + cnt ≤ Maps.size D0 ∧ Got σ left cs ∧ J cs wr)
    (fun _ wr => wr.rangeLeft b W.heap.size)
  case atStart =>
    exact ⟨_, _, [], hrg0, by simp, Got.start hR, hJ [] W w0 none h0 hg0 (fun r e => by cases e)⟩
  case round =>
    obtain ⟨left, cnt, cs, hrg, hcs, hC, hJs⟩ := hrel
    gi_wp2_with (first
      | (gi_at_next; refine wpListIn_next_ranges _ rfl _ rfl 180 law69 cellElem (fun p : ByteArray × ByteArray => Value.agg #[.string p.1, .string p.2]) cellV (fun key kl h => key69_inv h) (fun v y h => by obtain ⟨c, hc, _⟩ := cellElem_inv h; exact ⟨c, hc⟩) b W.heap.size nn _ _ _ rfl hrg ?_ ?_)
      | gi_in)
    · intro hc0 hl0
      gi_wp2
      go_end0
      exact ⟨⟨_, rfl⟩, cs, ⟨hC.all hl0, by omega⟩, hJs⟩
    · intro xt xr c kl yd yp w2 cnt2 hkey hlk hv hat hrg2 hlt hg2 hs2 hen
      obtain ⟨rfl, rfl⟩ : yd = cellD c ∧ yp = [] := by
        rw [cellElem_mk] at hv
        simp only [Option.some.injEq, Prod.mk.injEq] at hv
        exact ⟨hv.1.symm, hv.2.symm⟩
      obtain ⟨hσ, rfl⟩ : σ c.t c.r = some (c.s, c.v) ∧ kl = klit c.t c.r := by
        obtain ⟨d, hd, hk⟩ := hR.entry (has_true_of_atKey hat)
        have h1 := (hR.there hd).2 .nil
        rw [← hk, hat] at h1
        obtain rfl := cellD_inj h1
        exact ⟨hd, hk⟩
      have hJ2 : J cs w2 := hJ cs wr w2 (some W.heap.size) hJs hg2 (fun r e => by cases e; exact ⟨Nat.le_refl _, hrg.iter_walk⟩)
      have hJ3 : J cs (w2.alloc (.cells #[.string c.t, .string c.r, .string c.s, .string c.v] 129)) := hJ cs w2 _ none hJ2 (World.grownBy_alloc w2 _ none) (fun r e => by cases e)
      obtain ⟨fn, tmps, assign, body, hy, hRd⟩ := hY cs c _ hJ3 (by omega)
      clear hs2
      unfold cellV at hy hen ⊢
      gi_wp2
      refine hRd.mono ?_
      rintro e W3 ⟨rfl, hJ4, hk3⟩
      gi_wp2
      have hrg3 := (hrg2.alloc (.cells #[.string c.t, .string c.r, .string c.s, .string c.v] 129)).of_walks hk3
      go_roundw
      case rel => exact ⟨_, cnt2, cs ++ [c], hrg3, by simp; omega, hC.step hR hσ hlk, hJ4⟩
      case measure => rw [hrg3.left_eq, hrg.left_eq]; exact hlt
/-- maps.Values(m): the map is boxed; the function value captures the box. -/
theorem values_in (F : Fence) (n : Nat) (hf : F.fn 124) (hro : F.round = none) (mb : Option Nat) (w : World) :
    CallsIn F n Tryz.prog 124 #[.map mb] w fun e w' => e = .returned (.func (.func 161) #[] #[.pointer (some ⟨w.heap.size, 0, none⟩)]) ∧ w' = w.alloc (.cells #[.map mb] 108) := by
  refine callsIn_of_wp Tryz.func124 rfl hf ?_ hro
  simp only [Tryz.ntmps124, List.size_toArray, List.length_cons, List.length_nil, Nat.reduceAdd, Nat.reduceSub, Array.replicate_succ, Array.replicate_zero, List.push_toArray, List.append_toArray, List.nil_append, List.cons_append]
  gi_wp2
  go_ret
  exact ⟨rfl, rfl⟩
theorem values_gives (F : Fence) (n : Nat) (h57 : F.fn 161) (hro : F.round = none) (hn : 1 ≤ n) (Bm b nn : Nat) (D0 : DataW Unit) (σ : Tab) (hR : Reads D0 σ) (w : World) (hBm : Bm < w.heap.size)
    (hm : w.cell? ⟨Bm, 0, none⟩ = some (.map (some b))) (hown : w.ownsMap Tryz.prog 180 cellElem b nn D0) :
    SeqGives F n Tryz.prog 161 #[.pointer (some ⟨Bm, 0, none⟩)] cellV (fun cs => AllOf σ cs ∧ cs.length ≤ Maps.size D0) (Maps.size D0) w := fun l J W hW hJ hY h0 => by
  have hown' : W.ownsMap Tryz.prog 180 cellElem b nn D0 := by
    have hbl := hown.lt
    obtain ⟨es, clock, hb, Ft, hs, hD⟩ := hown
    exact ⟨es, clock, (hW.block b hbl).trans hb, Ft, hs, hD⟩
  exact values1_in F n h57 hro hn l Bm b nn D0 σ hR J hY W hJ ((hW.cell (p := ⟨Bm, 0, none⟩) hBm).trans hm) hown' h0
set_option maxRecDepth 100000 in
set_option maxHeartbeats 2000000 in
/-- Over no map: nothing comes. -/
theorem values_gives_nil (F : Fence) (n : Nat) (h57 : F.fn 161) (hro : F.round = none) (Bm : Nat) (w : World) (hBm : Bm < w.heap.size) (hm : w.cell? ⟨Bm, 0, none⟩ = some (.map none)) :
    SeqGives F n Tryz.prog 161 #[.pointer (some ⟨Bm, 0, none⟩)] cellV (fun cs => AllOf tab0 cs ∧ cs.length ≤ 0) 0 w := fun l J W hW hJ _ h0 => by
  have hm' : W.cell? ⟨Bm, 0, none⟩ = some (.map none) := (hW.cell (p := ⟨Bm, 0, none⟩) hBm).trans hm
  have hrg := run_range_nilMap (P := Tryz.prog) W 108 _ _ Tryz.underlying108
  have hnx : ∀ ty, (Instr.next (.pointer (some ⟨W.heap.size, 0, none⟩)) false ty).run Tryz.prog (W.alloc (.mapIter none 0 #[] 0)) = _ := fun ty => run_next_nilMap _ ty 0 0 #[]
  have hJ1 : J [] (W.alloc (.mapIter none 0 #[] 0)) := hJ [] W _ none h0 (World.grownBy_alloc W _ none) (fun r e => by cases e)
  refine callsIn_of_wp Tryz.func161 rfl h57 ?_ hro
  simp only [Tryz.ntmps161, List.size_toArray, List.length_cons, List.length_nil, Nat.reduceAdd, Nat.reduceSub, Array.replicate_succ, Array.replicate_zero, List.push_toArray, List.append_toArray, List.nil_append, List.cons_append]
  gi_wp2
  gi_loopw [4] (fun _ wr => wr = W.alloc (.mapIter none 0 #[] 0)) (fun _ _ => 0)
  case atStart => rfl
  case round =>
    subst hrel
    gi_wp2
    go_end0
    exact ⟨⟨_, rfl⟩, [], ⟨⟨List.Pairwise.nil, fun c => by simp [tab0]⟩, by simp⟩, hJ1⟩
end Go.Proofs.YtdjpghgnjcmdnaaGreatDoor

/- The library's AppendSeq and Collect, of cells: what an iterator gives, one behind the other, in memory of the calls' own. -/
namespace Go.Proofs.YtdjpghgnjcmdnaaGreatDoor
open Go.RowKit Go.Maps Go.Sort Go.Shelf
/-- Where a loop's code stands in the text: what its operations bear. -/
def posAt (c : Code) : String :=
  match c with
  | .region _ ops _ => match ops.toList with
    | o :: _ => o.pos
    | [] => ""
  | _ => ""
def posOf (c : Option Code) : String × String :=
  match c with
  | some (.seq _ (.seq (.seq _ (.block _ (.rangeFunc _ _ a (.block _ b)))) _)) => (posAt a, posAt b)
  | _ => ("", "")
/-- The loop's own code. -/
def apAssign (p : String) : Code := (Code.region 2 #[{ dst := some 5, op := Op.alloc 129, type := 0, pos := p, after := #[], guard := none }, { dst := none, op := Op.store 129 (Operand.tmp 5) (Operand.tmp 7), type := 0, pos := p, after := #[{ on := 0, ground := Ground.data }, { on := 0, ground := Ground.phase }], guard := none }] false)
def apBody (p : String) : Code := (Code.block 1 (Code.region 3 #[{ dst := some 8, op := Op.load 30 (Operand.tmp 2), type := 30, pos := p, after := #[], guard := none }, { dst := some 9, op := Op.load 129 (Operand.tmp 5), type := 129, pos := p, after := #[], guard := none }, { dst := some 10, op := Op.buildSlice 30 1 #[(0, Operand.tmp 9)], type := 30, pos := p, after := #[{ on := 1, ground := Ground.data }], guard := none }, { dst := some 11, op := Op.call { callee := Callee.builtin Builtin.append, args := #[Operand.tmp 8, Operand.tmp 10], argTypes := #[30, 30] }, type := 30, pos := p, after := #[{ on := 0, ground := Ground.data }, { on := 2, ground := Ground.data }], guard := none }, { dst := none, op := Op.store 30 (Operand.tmp 2) (Operand.tmp 11), type := 0, pos := p, after := #[{ on := 3, ground := Ground.data }, { on := 3, ground := Ground.chain }, { on := 0, ground := Ground.phase }, { on := 1, ground := Ground.phase }, { on := 2, ground := Ground.phase }, { on := 3, ground := Ground.phase }], guard := none }] false))
/-- The loop's record: the temporaries as they stood at the entering. -/
def apRec (p q : String) (fn : FuncId) (sv : Value) (Bs D : Nat) (st : LoopState) (pend : Option Code) : Loop :=
  { state := st, pending := pend, fn, tmps := #[.slice none 0 0, sv, .pointer (some ⟨Bs, 0, none⟩), undef, .slice none 0 0, undef, sv, undef, undef, undef, undef, undef, undef], params := #[7], assign := apAssign p, body := apBody q, defers := D }
def cellsL (cs : List Cl) : List Value := cs.flatMap cellL
theorem cellsL_snoc (cs : List Cl) (c : Cl) : cellsL (cs ++ [c]) = cellsL cs ++ cellL c := by simp [cellsL]
/-- Between two rounds. -/
structure ApAt (p q : String) (w0 : World) (fn : FuncId) (sv : Value) (Bs l D : Nat) (cs : List Cl) (W : World) : Prop where
  box : ∃ v, W.heap[Bs]? = some (.cells #[v] 30 (0, 0)) ∧ W.ownsRow w0.heap.size 129 4 v cs.length (cellsL cs) ∧ (v = .slice none 0 0 ↔ cs = [])
  L : W.heap[l]? = some (.loop (apRec p q fn sv Bs D .ready none))
  K : W.heap[D]? = some (.deferred (some []))
  below : Below w0.heap.size w0 W
theorem ap_abides (p q : String) (w0 : World) (fn : FuncId) (sv : Value) (Bs l D B : Nat) (hB : w0.heap.size ≤ B) : AbidesFrom B (ApAt p q w0 fn sv Bs l D) := fun s W W' row h hg hrow => by
  have hrow' : ∀ r, row = some r → ∃ o : Obj, W.heap[r]? = some o ∧ o.isWalk = true := fun r e => (hrow r e).2
  obtain ⟨v, hv, hr, hn⟩ := h.box
  exact ⟨⟨v, (grownBy_keeps hg hrow' hv rfl).trans hv, ownsRow_abides_a hr hg hrow', hn⟩, (grownBy_keeps hg hrow' h.L rfl).trans h.L, (grownBy_keeps hg hrow' h.K rfl).trans h.K,
    h.below.grown hg h.below.size (fun k e => Nat.le_trans hB (hrow k e).1)⟩
theorem info42 : (Tryz.prog.info? 129).map (fun i => (i.zero, i.size, i.bytes)) = some (some (cellV cl0), 4, 64) := by kernel_rfl
theorem cell_four_new (w : World) (c : Cl) : ∀ (j : Nat) (u : Value), (cellL c)[j]? = some u → (w.alloc (.cells #[.string c.t, .string c.r, .string c.s, .string c.v] 129)).cell? ((⟨w.heap.size, 0, none⟩ : Addr).add j) = some u :=
  news_blk (HasR.new w 129 #[.string c.t, .string c.r, .string c.s, .string c.v])
set_option maxRecDepth 100000 in
set_option maxHeartbeats 2000000 in
theorem apYield (p q : String) (F : Fence) (m : Nat) (w0 : World) (fn : FuncId) (hfn : F.fn fn) (sv : Value) (Bs l D : Nat) (hBl : Bs ≠ l) (hDl : D ≠ l) (hDB : D ≠ Bs) (h0B : w0.heap.size ≤ Bs) (h0l : w0.heap.size ≤ l)
    (N : Nat) (hN : N ≤ 1000) (cs : List Cl) (x : Cl) (W : World) (h : ApAt p q w0 fn sv Bs l D cs W) (hlen : cs.length < N) :
    YieldAt F m Tryz.prog l #[cellV x] W fun e W' => e = .returned (.bool true) ∧ ApAt p q w0 fn sv Bs l D (cs ++ [x]) W' ∧ KeepsWalks W W' := by
  obtain ⟨i0, hi, hz0, hz1, hz2⟩ := info_parts info42
  refine ⟨fn, #[.slice none 0 0, sv, .pointer (some ⟨Bs, 0, none⟩), undef, .slice none 0 0, undef, sv, cellV x, undef, undef, undef, undef, undef], apAssign p, apBody q, by simpa [apRec] using run_yield (P := Tryz.prog) (args := #[cellV x]) h.L rfl, roundIn_of_wpIn hfn ?_⟩
  have hbox0 := HasR.new W 129 #[.string x.t, .string x.r, .string x.s, .string x.v]
  have hA := ap_abides p q w0 fn sv Bs l D w0.heap.size (Nat.le_refl _) cs W _ none h (World.grownBy_alloc W (.cells #[.string x.t, .string x.r, .string x.s, .string x.v] 129) none) (fun r e => by cases e)
  have hkA : KeepsWalks W (W.alloc (.cells #[.string x.t, .string x.r, .string x.s, .string x.v] 129)) := KeepsWalks.alloc _ _
  have hlW : l < W.heap.size := (Array.getElem?_eq_some_iff.1 h.L).1
  unfold apAssign cellV
  gi_wp2_with (rw [Oper.semAt_eq _ _ _ (fun c h => by cases h)]; go_simp; try go_bits)
  obtain ⟨Wa, hWa⟩ : ∃ Wa, W.alloc (.cells #[.string x.t, .string x.r, .string x.s, .string x.v] 129) = Wa := ⟨_, rfl⟩
  rw [hWa] at hbox0 hA hkA ⊢
  clear h hWa
  obtain ⟨v, hv, hrow, _⟩ := hA.box
  have hl : l < Wa.heap.size := (Array.getElem?_eq_some_iff.1 hA.L).1
  have hbr := run_beginRound (P := Tryz.prog) hA.L rfl
  obtain ⟨W2, hW2⟩ : ∃ W2, Wa.putObj l (.loop { apRec p q fn sv Bs D .ready none with state := .busy }) = W2 := ⟨_, rfl⟩
  rw [hW2] at hbr
  refine ⟨W2, hbr, ?_⟩
  have hg2 : Wa.grownBy W2 (some l) := by rw [← hW2]; exact grownBy_putObj_a _ _ _
  have hk2 : KeepsWalks Wa W2 := by rw [← hW2]; exact KeepsWalks.putObj _ hA.L rfl
  have hv2 : W2.heap[Bs]? = some (.cells #[v] 30 (0, 0)) := by rw [← hW2]; exact (World.putObj_heap_other hBl).trans hv
  have hK2 : W2.heap[D]? = some (.deferred (some [])) := by rw [← hW2]; exact (World.putObj_heap_other hDl).trans hA.K
  have hL2 : W2.heap[l]? = some (.loop { apRec p q fn sv Bs D .ready none with state := .busy }) := by rw [← hW2]; exact World.putObj_heap_same hl
  have hX2 : HasR W2 W.heap.size 129 #[.string x.t, .string x.r, .string x.s, .string x.v] := by
    rw [← hW2]; exact (World.putObj_heap_other (by omega)).trans hbox0
  have hrow2 : W2.ownsRow w0.heap.size 129 4 v cs.length (cellsL cs) := hrow.kept hg2 (ownsRow_ne_a hrow hA.L (fun cur e => by cases e))
  have hb2 : Below w0.heap.size w0 W2 := hA.below.grown hg2 hA.below.size (fun k e => by cases e; exact h0l)
  obtain ⟨hc2, hf2⟩ := cell_of_box_a hv2
  have hx0 := hX2.cell 0
  have hx1 := hX2.cell 1
  have hx2 := hX2.cell 2
  have hx3 := hX2.cell 3
  simp at hx0 hx1 hx2 hx3
  have hBlt : Bs < W2.heap.size := (Array.getElem?_eq_some_iff.1 hv2).1
  have hl2 : l < W2.heap.size := (Array.getElem?_eq_some_iff.1 hL2).1
  have hDlt : D < W2.heap.size := (Array.getElem?_eq_some_iff.1 hK2).1
  have ne_of : ∀ {j : Nat} {o : Obj}, W2.heap[j]? = some o → (∀ cur, o ≠ .cells cur 129 (0, 0)) → some j ≠ v.ownBlock := fun hj hno => by
    rcases ownsRow_ne_a hrow2 hj hno with e | e
    · rw [e]; simp
    · exact fun e' => e e'.symm
  have hB38 : ∀ (u : Value) cur, (Obj.cells #[u] 30 (0, 0)) ≠ .cells cur 129 (0, 0) := fun u cur e => by injection e with _ e _; cases e
  have hbase := hb2.size
  clear hW2 hbr
  unfold apBody
  gi_wp2_with (first
    | (gi_at_builtin; refine wpListIn_append_own _ rfl _ _ 30 rfl w0.heap.size 129 i0 (cellV cl0) 4 64 Tryz.underlying30 hi hz0 hz1 hz2 rfl (by decide) _ _ _ rfl (hrow2.alloc _) ⟨W2.heap.size, 0, none⟩ 1 1 (cellL x) rfl rfl (cell_four_new _ _) (by simp [Value.oneCell', cellL]) (by unfold maxLen; omega) (by omega) (by simp; omega) ?_; intro v' w3 hown' hg3 hnil3
       have hv3 : w3.heap[Bs]? = some (.cells #[v] 30 (0, 0)) := (hg3.block Bs (by simp; omega) (ne_of hv2 (hB38 v))).trans ((Below.heap_alloc _ _ Bs hBlt).trans hv2)
       obtain ⟨hc3, hf3⟩ := cell_of_box_a hv3
       obtain ⟨g', cap', cur', rfl, hbase', hgb', hr1, hr2, hr3, hr4⟩ : ∃ g' cap' cur', v' = .slice (some ⟨g', 0, none⟩) (cs.length + 1) cap' ∧ w0.heap.size ≤ g' ∧ w3.heap[g']? = some (.cells cur' 129 (0, 0)) ∧ cs.length + 1 ≤ cap' ∧ cap' ≤ maxLen ∧ cur'.size = cap' * 4 ∧ cur'.toList.take ((cs.length + 1) * 4) = cellsL cs ++ cellL x := by
         rcases hown'.2 with ⟨_, h0⟩ | h'
         · exact absurd h0 (by omega)
         · exact h'
       go_frame)
    | (rw [Oper.semAt_eq _ _ _ (fun c h => by cases h)]; go_simp; try go_bits))
  have hg3' : (W2.alloc (.cells #[.string x.t, .string x.r, .string x.s, .string x.v] 129)).grownBy w3 v.ownBlock := hg3
  have hL3 : w3.heap[l]? = some (.loop { apRec p q fn sv Bs D .ready none with state := .busy }) := (hg3'.block l (by simp; omega) (ne_of hL2 (fun cur e => by cases e))).trans ((Below.heap_alloc _ _ l hl2).trans hL2)
  have hK3 : w3.heap[D]? = some (.deferred (some [])) := (hg3'.block D (by simp; omega) (ne_of hK2 (fun cur e => by cases e))).trans ((Below.heap_alloc _ _ D hDlt).trans hK2)
  obtain ⟨w4, hw4⟩ : ∃ w4, w3.setCell ⟨Bs, 0, none⟩ (.slice (some ⟨g', 0, none⟩) (cs.length + 1) cap') = w4 := ⟨_, rfl⟩
  rw [hw4]
  have hg4 : w3.grownBy w4 (some Bs) := by rw [← hw4]; exact grownBy_setCell0_a _ _ _
  have hv4 : w4.heap[Bs]? = some (.cells #[.slice (some ⟨g', 0, none⟩) (cs.length + 1) cap'] 30 (0, 0)) := by rw [← hw4]; exact heap_setCell_box_a _ hv3
  have hL4 : w4.heap[l]? = some (.loop { apRec p q fn sv Bs D .ready none with state := .busy }) := (hg4.block l (Array.getElem?_eq_some_iff.1 hL3).1 (fun e => hBl (by cases e; rfl))).trans hL3
  have hK4 : w4.heap[D]? = some (.deferred (some [])) := (hg4.block D (Array.getElem?_eq_some_iff.1 hK3).1 (fun e => hDB (by cases e; rfl))).trans hK3
  have hrow4 := hown'.kept hg4 (ownsRow_ne_a hown' hv3 (hB38 v))
  have hl4 : l < w4.heap.size := (Array.getElem?_eq_some_iff.1 hL4).1
  have hb3 : Below w0.heap.size w0 w3 := (hb2.alloc hb2.size _).grown hg3' (by have := hb2.size; simp; omega) (fun k e => (hrow2.lt k e).1)
  have hb4 : Below w0.heap.size w0 w4 := hb3.grown hg4 hb3.size (fun k e => by cases e; exact h0B)
  have hk4 : KeepsWalks W w4 := hkA.trans (((hk2.trans (KeepsWalks.alloc _ _)).trans (KeepsWalks.of_grownBy hg3' (ownsRow_not_walk_a (hrow2.alloc _)))).trans (by rw [← hw4]; exact KeepsWalks.setCell _ _ _))
  clear hw4
  refine ⟨_, _, run_endRound none hL4, rfl, ⟨⟨_, (World.putObj_heap_other hBl).trans hv4, ?_, by simp⟩, World.putObj_heap_same hl4, (World.putObj_heap_other hDl).trans hK4, hb4.grown (grownBy_putObj_a _ _ _) hb4.size (fun k e => by cases e; exact h0l)⟩, hk4.trans (KeepsWalks.putObj _ hL4 rfl)⟩
  have := hrow4.kept (grownBy_putObj_a w4 l (.loop { { apRec p q fn sv Bs D .ready none with state := .busy } with state := if (none : Option Code).isNone then .ready else .done, pending := none })) (ownsRow_ne_a hrow4 hL4 (fun cur e => by cases e))
  rw [cellsL_snoc]
  simpa using this
set_option maxRecDepth 100000 in
set_option maxHeartbeats 2000000 in
/-- slices.AppendSeq(nil, seq): just what the iterator gave, in that order, in memory of the call's own. -/
theorem appendSeq_in (F : Fence) (n : Nat) (h62 : F.fn 207) (hro : F.round = none) (hn : 2 ≤ n) (g : Nat) (lb : Array Value) (hFg : F.fn g) (eg : ∀ args w, (callFunc g args).run Tryz.prog w = .ok (.enter g args) w)
    (S : List Cl → Prop) (N : Nat) (hN : N ≤ 1000) (w : World) (hseq : SeqGives F (n - 1) Tryz.prog g lb cellV S N w) :
    CallsIn F n Tryz.prog 207 #[.slice none 0 0, .func (.func g) #[] lb] w fun e w' => ∃ (v : Value) (cs : List Cl), e = .returned v ∧ S cs ∧ w'.ownsRow w.heap.size 129 4 v cs.length (cellsL cs) ∧ (v = .slice none 0 0 ↔ cs = []) ∧ Below w.heap.size w w' := by
  have h1 : 1 ≤ n := by omega
  have hB38 : ∀ (u : Value) cur, (Obj.cells #[u] 30 (0, 0)) ≠ .cells cur 129 (0, 0) := fun u cur e => by injection e with _ e _; cases e
  refine callsIn_of_wp_marks Tryz.func207 rfl h62 ?_ hro
  simp only [Tryz.ntmps207, List.size_toArray, List.length_cons, List.length_nil, Nat.reduceAdd, Nat.reduceSub, Array.replicate_succ, Array.replicate_zero, List.push_toArray, List.append_toArray, List.nil_append, List.cons_append]
  gi_wp2
  refine wpIn_rangeFunc ?_
  intro fn hfn
  rw [hro]
  obtain ⟨W0, hW0⟩ : ∃ W0, w.alloc (.cells #[.slice none 0 0] 30) = W0 := ⟨_, rfl⟩
  have hs0 : W0.heap.size = w.heap.size + 1 := by rw [← hW0]; simp
  have hv0 : W0.heap[w.heap.size]? = some (.cells #[.slice none 0 0] 30 (0, 0)) := by rw [← hW0]; exact World.alloc_heap_new w _
  have hb0 : Below w.heap.size w W0 := by rw [← hW0]; exact (Below.refl _ w).alloc (Nat.le_refl _) _
  rw [hW0]
  obtain ⟨W1, hW1⟩ : ∃ W1, (W0.alloc (.deferred (some []))).alloc (.loop (apRec (posOf Tryz.f207.body).1 (posOf Tryz.f207.body).2 fn (.func (.func g) #[] lb) w.heap.size W0.heap.size .ready none)) = W1 := ⟨_, rfl⟩
  have hold : ∀ k, k < W0.heap.size → W1.heap[k]? = W0.heap[k]? := fun k hk => by
    rw [← hW1]; exact (Below.heap_alloc _ _ k (by simp; omega)).trans (Below.heap_alloc _ _ k hk)
  have hb1 : Below w.heap.size w W1 := by rw [← hW1]; exact (hb0.alloc hb0.size _).alloc (by have := hb0.size; simp; omega) _
  have hs1 : W1.heap.size = W0.heap.size + 2 := by rw [← hW1]; simp
  have hM : ApAt (posOf Tryz.f207.body).1 (posOf Tryz.f207.body).2 w fn (.func (.func g) #[] lb) w.heap.size (W0.heap.size + 1) W0.heap.size [] W1 :=
    ⟨⟨_, (hold w.heap.size (by omega)).trans hv0, ⟨rfl, .inl ⟨rfl, rfl⟩⟩, by simp⟩,
     by rw [← hW1]; have := World.alloc_heap_new (W0.alloc (.deferred (some []))) (.loop (apRec (posOf Tryz.f207.body).1 (posOf Tryz.f207.body).2 fn (.func (.func g) #[] lb) w.heap.size W0.heap.size .ready none)); rwa [World.size_alloc] at this,
     by rw [← hW1]; exact (Below.heap_alloc _ _ _ (by simp)).trans (World.alloc_heap_new W0 _), hb1⟩
  refine ⟨W0.heap.size + 1, [{ target := .collected W0.heap.size, args := #[] }], W1, { target := .fn (.func g) lb, args := #[.func (.yield (W0.heap.size + 1)) #[] #[]] }, W1, g, #[.func (.yield (W0.heap.size + 1)) #[] #[]] ++ lb, W1, ?_, ?_, ?_, ?_, fun _ => h1, ?_⟩
  · rw [← hW1]; exact run_enterLoop_outer _ _ _ _ _
  · simp [resolve, go_sem]
  · intro f' hf'; simp [Target.leads] at hf'; subst hf'; exact hFg
  · simp [invoke, go_sem, eg]
  · refine (hseq (W0.heap.size + 1) (ApAt (posOf Tryz.f207.body).1 (posOf Tryz.f207.body).2 w fn (.func (.func g) #[] lb) w.heap.size (W0.heap.size + 1) W0.heap.size) W1 hb1 (ap_abides _ _ _ _ _ _ _ _ _ hb1.size)
      (fun pre x W hJ hl => apYield _ _ F (n - 1 - 1) w fn hfn _ w.heap.size (W0.heap.size + 1) W0.heap.size (by omega) (by omega) (by omega) (Nat.le_refl _) (by omega) N hN pre x W hJ hl) hM).mono ?_
    rintro e W2 ⟨⟨v0, rfl⟩, cs, hS, h2⟩
    obtain ⟨v, hv, hrow, hnil⟩ := h2.box
    have hend := run_endLoop (P := Tryz.prog) h2.L (by simp [apRec])
    obtain ⟨W3, hW3⟩ : ∃ W3, W2.putObj (W0.heap.size + 1) (.loop { apRec (posOf Tryz.f207.body).1 (posOf Tryz.f207.body).2 fn (.func (.func g) #[] lb) w.heap.size W0.heap.size .ready none with state := .exhausted }) = W3 := ⟨_, rfl⟩
    rw [hW3] at hend
    have hg3 : W2.grownBy W3 (some (W0.heap.size + 1)) := by rw [← hW3]; exact grownBy_putObj_a _ _ _
    have hv3 : W3.heap[w.heap.size]? = some (.cells #[v] 30 (0, 0)) := by rw [← hW3]; exact (World.putObj_heap_other (by omega)).trans hv
    have hK3 : W3.heap[W0.heap.size]? = some (.deferred (some [])) := by rw [← hW3]; exact (World.putObj_heap_other (by omega)).trans h2.K
    have hrow3 := hrow.kept hg3 (ownsRow_ne_a hrow h2.L (fun cur e => by cases e))
    have hb3 : Below w.heap.size w W3 := h2.below.grown hg3 h2.below.size (fun k e => by cases e; omega)
    obtain ⟨hc3, hf3⟩ := cell_of_box_a hv3
    clear hW3
    refine ⟨none, W3, hend, ?_⟩
    gi_wp2
    rw [← hs0]
    refine ⟨by simp, .inl ⟨_, _, rfl, run_takeDeferred hK3, ?_⟩⟩
    exact ⟨_, results_tmp rfl _ _ _, v, cs, rfl, hS, hrow3.kept (grownBy_putObj_a _ _ _) (ownsRow_ne_a hrow3 hK3 (fun cur e => by cases e)), hnil, hb3.grown (grownBy_putObj_a _ _ _) hb3.size (fun k e => by cases e; omega)⟩
set_option maxRecDepth 100000 in
set_option maxHeartbeats 1000000 in
/-- slices.Collect(seq). -/
theorem collect_in (F : Fence) (n : Nat) (h55 : F.fn 159) (h62 : F.fn 207) (hro : F.round = none) (hn : 3 ≤ n) (g : Nat) (lb : Array Value) (hFg : F.fn g) (eg : ∀ args w, (callFunc g args).run Tryz.prog w = .ok (.enter g args) w)
    (S : List Cl → Prop) (N : Nat) (hN : N ≤ 1000) (w : World) (hseq : SeqGives F (n - 1 - 1) Tryz.prog g lb cellV S N w) :
    CallsIn F n Tryz.prog 159 #[.func (.func g) #[] lb] w fun e w' => ∃ (v : Value) (cs : List Cl), e = .returned v ∧ S cs ∧ w'.ownsRow w.heap.size 129 4 v cs.length (cellsL cs) ∧ (v = .slice none 0 0 ↔ cs = []) ∧ Below w.heap.size w w' := by
  have h1 : 1 ≤ n := by omega
  refine callsIn_of_wp Tryz.func159 rfl h55 ?_ hro
  simp only [Tryz.ntmps159, List.size_toArray, List.length_cons, List.length_nil, Nat.reduceAdd, Nat.reduceSub, Array.replicate_succ, Array.replicate_zero, List.push_toArray, List.append_toArray, List.nil_append, List.cons_append]
  gi_wp2_with (gi_at_call 207; refine (appendSeq_in F (n - 1) h62 hro (by omega) g lb hFg eg S N hN _ hseq).mono ?_; rintro e w' ⟨v, cs, rfl, hS, hrow, hnil, hb⟩)
  go_ret
  exact ⟨v, cs, rfl, hS, hrow, hnil, hb⟩
end Go.Proofs.YtdjpghgnjcmdnaaGreatDoor

/- Cells in a row of memory: what the calls hand back. -/
namespace Go.Proofs.YtdjpghgnjcmdnaaGreatDoor
open Go.RowKit Go.Sort
set_option linter.unusedSectionVars false
variable [Inhabited Cl]
theorem cellsL_at : ∀ (cs : List Cl) (t : Nat), t < cs.length * 4 → (cellsL cs)[t]? = some ((cellL cs.toArray[t / 4]!)[t % 4]!)
  | [], t, h => by simp at h
  | c :: cs, t, h => by
    have e : cellsL (c :: cs) = cellL c ++ cellsL cs := rfl
    rw [e]
    by_cases h4 : t < 4
    · have e1 : t / 4 = 0 := by omega
      have e2 : t % 4 = t := by omega
      rw [e1, e2, List.getElem?_append_left (by exact h4)]
      match t, h4 with
      | 0, _ => rfl
      | 1, _ => rfl
      | 2, _ => rfl
      | 3, _ => rfl
    · have e1 : t / 4 = (t - 4) / 4 + 1 := by omega
      have e2 : t % 4 = (t - 4) % 4 := by omega
      rw [e1, e2, List.getElem?_append_right (by exact Nat.le_of_not_lt h4)]
      have ih := cellsL_at cs (t - 4) (by simp at h; omega)
      have e3 : (c :: cs).toArray[(t - 4) / 4 + 1]! = cs.toArray[(t - 4) / 4]! := by simp
      rw [e3, ← ih]
      rfl
theorem holds_of_block {w : World} {g : Nat} {cur : Array Value} {cs : List Cl} (hg : w.heap[g]? = some (.cells cur 129 (0, 0))) (hc : cur.toList.take (cs.length * 4) = cellsL cs) : HoldsK cellL 4 w g 0 cs.toArray := by
  intro j hj
  rw [size_flatK, List.size_toArray] at hj
  rw [get_flatK _ _ _ _ (by rw [List.size_toArray]; exact hj), Nat.zero_add]
  refine ⟨?_, frozen_of_row w g j cur 129 hg⟩
  rw [cell_of_row w g j cur 129 (0, 0) hg, ← Array.getElem?_toList, ← List.getElem?_take_of_lt hj, hc, cellsL_at cs j hj]
  rfl
/-- The cells lie in the row that a slice names. -/
def RowC (w : World) (base : Nat) (v : Value) (cs : List Cl) : Prop :=
  (v = .slice none 0 0 ∧ cs = []) ∨ ∃ g cap, v = .slice (some ⟨g, 0, none⟩) cs.length cap ∧ base ≤ g ∧ g < w.heap.size ∧ cs.length ≤ cap ∧ cap ≤ maxLen ∧ HoldsK cellL 4 w g 0 cs.toArray
theorem RowC.of_owns {w : World} {base : Nat} {v : Value} {cs : List Cl} (h : w.ownsRow base 129 4 v cs.length (cellsL cs)) : RowC w base v cs := by
  rcases h.2 with ⟨rfl, h0⟩ | ⟨g, cap, cur, rfl, hb, hg, h1, h2, h3, h4⟩
  · exact .inl ⟨rfl, List.length_eq_zero_iff.1 h0⟩
  · exact .inr ⟨g, cap, rfl, hb, lt_of_block hg, h1, h2, holds_of_block hg h4⟩
theorem holdsK_same {w w' : World} {g : Nat} {d : Array Cl} (h : HoldsK cellL 4 w g 0 d) (hb : w'.heap[g]? = w.heap[g]?) : HoldsK cellL 4 w' g 0 d := by
  intro j hj
  obtain ⟨h1, h2⟩ := h j hj
  exact ⟨(World.cell?_of_block (w := w) (a := ⟨g, 0 + j, none⟩) hb).trans h1, (World.frozen?_of_block (w := w) (a := ⟨g, 0 + j, none⟩) hb).trans h2⟩
theorem RowC.turned {w w' : World} {base : Nat} {v : Value} {cs : List Cl} {L : List Nat} (h : RowC w base v cs) (t : Stirred L w w') (hL : ∀ k ∈ L, k < base) : RowC w' base v cs := by
  rcases h with h | ⟨g, cap, rfl, hb, hg, h1, h2, h3⟩
  · exact .inl h
  · exact .inr ⟨g, cap, rfl, hb, Nat.lt_of_lt_of_le hg t.size, h1, h2, holdsK_same h3 (t.block g hg (fun hm => by have := hL g hm; omega))⟩
theorem RowC.below {w w' : World} {base B : Nat} {v : Value} {cs : List Cl} (h : RowC w base v cs) (k : Below B w w') (hB : w.heap.size ≤ B) : RowC w' base v cs := by
  rcases h with h | ⟨g, cap, rfl, hb, hg, h1, h2, h3⟩
  · exact .inl h
  · exact .inr ⟨g, cap, rfl, hb, Nat.lt_of_lt_of_le hg k.size, h1, h2, holdsK_same h3 (k.block g (by omega))⟩
theorem RowC.mono {w : World} {base base' : Nat} {v : Value} {cs : List Cl} (h : RowC w base v cs) (hb : base' ≤ base) : RowC w base' v cs := by
  rcases h with h | ⟨g, cap, rfl, hb', r⟩
  · exact .inl h
  · exact .inr ⟨g, cap, rfl, Nat.le_trans hb hb', r⟩
theorem isAgg42 (w : World) : (isAgg 129).run Tryz.prog w = .ok true w := by kernel_rfl
theorem sizeOf42 (w : World) : (Go.sizeOf 129).run Tryz.prog w = .ok 4 w := by kernel_rfl
theorem cellL_one (x : Cl) : ∀ v ∈ cellL x, v.oneCell' = true := by
  intro v hv
  simp [cellL] at hv
  rcases hv with rfl | rfl | rfl | rfl <;> rfl
theorem below_sortWorld {w : World} {blk n B : Nat} {d : Array Cl} {os : Array Obj} (hB : B ≤ blk) (hb : blk < w.heap.size) : Below B w (sortWorldK cellL 4 w blk 0 n d os) := by
  have hs : (putRowK cellL 4 (Sort.ahead w n) blk 0 d).heap.size = w.heap.size := by simp [putRowK, putRow, mapBlock, Sort.ahead]
  refine ⟨rfl, rfl, rfl, by unfold sortWorldK; rw [size_grow, hs]; omega, fun k hk => ?_⟩
  unfold sortWorldK
  rw [heap_grow_old _ _ (by rw [hs]; omega)]
  show ((Sort.ahead w n).heap.modify blk _)[k]? = w.heap[k]?
  rw [Array.getElem?_modify]
  rw [if_neg (by omega)]
  rfl
end Go.Proofs.YtdjpghgnjcmdnaaGreatDoor
