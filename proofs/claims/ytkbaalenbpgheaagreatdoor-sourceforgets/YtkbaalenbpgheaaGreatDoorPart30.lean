/- Texts of this proof, one behind the other. -/
import Derived.Shelf.SlicesE.Clone
import Derived.Test.YtkbaalenbpgheaaGreatDoorPart29
/- Do of any short event: it happened, or an error is told and nothing is changed. -/
namespace Go.Proofs.YtkbaalenbpgheaaGreatDoor
open Go.RowKit Go.Sort
/-- An event that happens: it may be, it is not refused, and who is forgotten is known. -/
def doesB (σ : Kept) (τ : Tab) (e : Ev) : Bool := rightB e && (decide (refuseB τ e = 0) && (!decide (e.k = 3) || (σ e.s.data.toList).2))
theorem do_any (B : Nat) (w : World) (sb fb vb : Nat) (mt mv : Option Nat) (v : Value) (nt nv : Nat) (sec : ByteArray) (σ : Kept) (τ : Tab) (rs : List Rec) (e : Ev) (h : Src B w sb fb vb mt mv v nt nv sec σ τ rs) (he : Brief e) (hp : sec.size ≤ 60) (hlen : rs.length < 100) (hnv : nv < 1000) (hnt : nt < 1000) (T : Tabs w) (hB : 3 < B) :
    Calls Tryz.prog 10 #[.pointer (some ⟨sb, 0, none⟩), .agg #[.int .i64 e.k, .string e.s, .string e.t, .string e.r, .string e.v]] w fun x w' =>
      (doesB σ τ e = true ∧ x = .returned (.tuple #[.agg (recA (tellR sec σ rs e)), .nilIface]) ∧ (∃ mt' m v', Src B w' sb fb vb mt' (some m) v' (nt + 1) (nv + 1) sec (tellK σ e) (app e τ) (rs ++ [tellR sec σ rs e]) ∧ ∀ j ∈ ownS sb fb vb mt' (some m) v', j ∈ ownS sb fb vb mt mv v ∨ w.heap.size ≤ j) ∧ Stirred (ownS sb fb vb mt mv v) w w' ∧ Below B w w') ∨
      (doesB σ τ e = false ∧ (∃ n : Int, x = .returned (.tuple #[.agg #[.int .i64 0, .string ⟨#[]⟩, .int .i64 0, .string ⟨#[]⟩, .string ⟨#[]⟩], .iface 56 (.int .i64 n)])) ∧ Src B w' sb fb vb mt mv v nt nv sec σ τ rs ∧ Below w.heap.size w w') := by
  by_cases h0 : refuseB τ e = 0
  · cases hr : rightB e
    · refine (do_untold sb fb _ mt nt τ e 1 w he h.tab h0 (fun wx _ => tell_bad wx fb e hr)).mono ?_
      rintro x w' ⟨rfl, hb⟩
      exact .inr ⟨by unfold doesB; rw [hr]; rfl, ⟨_, rfl⟩, h.still hb, hb⟩
    · by_cases hk : e.k = 3 ∧ (σ e.s.data.toList).2 = false
      · refine (do_untold sb fb _ mt nt τ e 8 w he h.tab h0 (fun wx hb => tell_none wx fb vb v rs mv sec nv σ e (h.still hb).feed (h.still hb).keys hr hk.1 hk.2 h.fit hlen (T.k.below hb T.k.lt) (T.l.below hb T.l.lt))).mono ?_
        rintro x w' ⟨rfl, hb⟩
        exact .inr ⟨by unfold doesB; rw [hr, hk.2]; simp [hk.1], ⟨_, rfl⟩, h.still hb, hb⟩
      · have hg : e.k = 3 → (σ e.s.data.toList).2 = true := fun e3 => by
          cases hq : (σ e.s.data.toList).2
          · exact absurd ⟨e3, hq⟩ hk
          · rfl
        refine (do_ok B w sb fb vb mt mv v nt nv sec σ τ rs e h he hr h0 hg hp hlen hnv hnt T.l (fun w' hb => T.k.below hb hB)).mono ?_
        rintro x w' ⟨rfl, hs, hb⟩
        refine .inl ⟨?_, rfl, hs, hb, hb.below h.base h.lowO⟩
        unfold doesB
        rw [hr]
        by_cases e3 : e.k = 3
        · simp [h0, hg e3]
        · simp [h0, e3]
  · refine (do_refused sb _ _ mt nt τ e w he h.tab h0).mono ?_
    rintro x w' ⟨rfl, hb⟩
    exact .inr ⟨by unfold doesB; simp [h0], ⟨_, rfl⟩, h.still hb, hb⟩
theorem does_parts {σ : Kept} {τ : Tab} {e : Ev} (h : doesB σ τ e = true) : rightB e = true ∧ refuseB τ e = 0 := by
  unfold doesB at h
  simp only [Bool.and_eq_true, decide_eq_true_eq] at h
  exact ⟨h.1, h.2.1⟩
end Go.Proofs.YtkbaalenbpgheaaGreatDoor

/- A feed's records, and a source's: a fresh row. -/
namespace Go.Proofs.YtkbaalenbpgheaaGreatDoor
open Go.RowKit Go.Sort Go.Shelf
attribute [local go_sem ↓] Go.wp_at_zero Go.wp_at_succ
def laysCloneR_ren : Go.Shelf.Ren := ⟨fun | 41 => 78 | n => n, fun | 22 => 39 | 23 => 30 | 4 => 4 | n => n, fun | n => n⟩
theorem laysCloneR : Go.Proofs.SlLaysE0.n41 Tryz.prog laysCloneR_ren := {
  mixed := by kernel_rfl
  f41 := ⟨Tryz.f78.name, by decide, Tryz.func78.trans (congrArg some (by kernel_rfl))⟩
  t4 := Tryz.underlying4
  a4 := Tryz.isAgg4
  z4 := Tryz.sizeOf4
  v4 := Tryz.zeroValue4
  t22 := Tryz.underlying39
  a22 := Tryz.isAgg39
  z22 := Tryz.sizeOf39
  v22 := Tryz.zeroValue39 }
theorem recsL_len : ∀ rs : List Rec, (recsL rs).length = rs.length * 5
  | [] => rfl
  | r :: rs => by
    have ih := recsL_len rs
    have e : recsL (r :: rs) = recL r ++ recsL rs := rfl
    have e5 : (recL r).length = 5 := rfl
    rw [e, List.length_append, ih, e5, List.length_cons]
    omega
theorem recL_one (r : Rec) (u : Value) (h : u ∈ recL r) : u.oneCell' = true := by
  simp only [recL, List.mem_cons, List.not_mem_nil, or_false] at h
  rcases h with rfl | rfl | rfl | rfl | rfl <;> rfl
/-- slices.Clone. -/
theorem cloneR_any (b : Nat) (v : Value) (rs : List Rec) (w : World) (h : w.ownsRow b 30 5 v rs.length (recsL rs)) (hl : rs.length ≤ 1000) :
    Calls Tryz.prog 78 #[v] w fun x w' => ∃ u, x = .returned u ∧ w'.ownsRow w.heap.size 30 5 u rs.length (recsL rs) ∧ Below w.heap.size w w' := by
  obtain ⟨i0, hi, hz0, hz1, hz2⟩ := info_parts info66
  have hlen := recsL_len rs
  rcases h.2 with ⟨e, e0⟩ | ⟨g, cap, cur, hv, hb, hg, h1, h2, h3, h4⟩
  · subst e
    have er : rs = [] := List.eq_nil_of_length_eq_zero e0
    subst er
    refine (AnyE.slices_Clone_nil (ρ := laysCloneR_ren) laysCloneR 0 0 w).mono ?_
    rintro x w' ⟨rfl, rfl⟩
    exact ⟨_, rfl, World.ownsRow_nil _ _ _ _, Below.refl _ _⟩
  · subst hv
    refine (AnyE.slices_Clone (ρ := laysCloneR_ren) laysCloneR i0 (.agg rec0) 5 64 hi hz0 hz1 hz2 rfl (by omega) (fun w => Tryz.sizeOf30 w) g 0 rs.length cap (recsL rs) w hlen (by unfold maxLen; omega) (by omega) ?_ ?_).mono ?_
    · intro j u hj
      have hj5 : j < rs.length * 5 := by
        have := (List.getElem?_eq_some_iff.1 hj).1
        omega
      rw [Nat.zero_add, cell_of_row w g _ cur 30 (0, 0) hg, ← Array.getElem?_toList, ← List.getElem?_take_of_lt (j := rs.length * 5) hj5, h4]
      exact hj
    · intro u hu
      unfold recsL at hu
      obtain ⟨r, _, hr⟩ := List.mem_flatMap.1 hu
      exact recL_one r u hr
    · rintro x w' ⟨u, rfl, ho, _, hb⟩
      exact ⟨u, rfl, ho, hb⟩
set_option maxRecDepth 100000 in
set_option maxHeartbeats 1000000 in
theorem records_any (w : World) (fb vb : Nat) (v : Value) (rs : List Rec) (h : FeedV w fb vb v rs) (hl : rs.length ≤ 1000) :
    Calls Tryz.prog 50 #[.pointer (some ⟨fb, 0, none⟩)] w fun x w' => ∃ u, x = .returned u ∧ w'.ownsRow w.heap.size 30 5 u rs.length (recsL rs) ∧ Below w.heap.size w w' := by
  have hq := ptrF_nil fb
  have c1 : w.cell? ⟨fb, 1, none⟩ = some v := h.row.cell 1
  obtain ⟨p, c, rfl⟩ := h.slice
  have C := hide (cloneR_any (fb + 1) _ rs w h.own hl)
  clear h
  go_enter Tryz.func50, Tryz.ntmps50
  go_wp2_with (go_at_call 78; (with_reducible refine C.out.mono ?_); rintro x w1 ⟨u, rfl, ho, hb⟩)
  go_ret
  exact ⟨u, rfl, ho, hb⟩
set_option maxRecDepth 100000 in
set_option maxHeartbeats 1000000 in
theorem srcFeed_any (B : Nat) (w : World) (sb fb vb : Nat) (mt mv : Option Nat) (v : Value) (nt nv : Nat) (sec : ByteArray) (σ : Kept) (τ : Tab) (rs : List Rec) (h : Src B w sb fb vb mt mv v nt nv sec σ τ rs) (hl : rs.length ≤ 1000) :
    Calls Tryz.prog 13 #[.pointer (some ⟨sb, 0, none⟩)] w fun x w' => ∃ u, x = .returned u ∧ w'.ownsRow w.heap.size 30 5 u rs.length (recsL rs) ∧ Below w.heap.size w w' := by
  have hq := ptrS_nil sb
  have c1 : w.cell? ⟨sb, 1, none⟩ = some (.pointer (some ⟨fb, 0, none⟩)) := h.tab.row.cell 1
  have C := hide (records_any w fb vb v rs h.feed hl)
  clear h
  go_enter Tryz.func13, Tryz.ntmps13
  go_wp2_with (go_at_call 50; (with_reducible refine C.out.mono ?_); rintro x w1 ⟨u, rfl, ho, hb⟩)
  go_ret
  exact ⟨u, rfl, ho, hb⟩
end Go.Proofs.YtkbaalenbpgheaaGreatDoor

/- Do of a short event, as it is known whether it happens; what a law reads of lists. -/
namespace Go.Proofs.YtkbaalenbpgheaaGreatDoor
open Go.RowKit Go.Sort
set_option linter.unusedSectionVars false
theorem ownsRow_slice {w : World} {b : Nat} {t : TypeId} {n len : Nat} {v : Value} {l : List Value} (h : w.ownsRow b t n v len l) : ∃ p c, v = .slice p len c := by
  rcases h.2 with ⟨rfl, rfl⟩ | ⟨g, cap, cur, rfl, _⟩
  · exact ⟨_, _, rfl⟩
  · exact ⟨_, _, rfl⟩
theorem do_yes (B : Nat) (w : World) (sb fb vb : Nat) (mt mv : Option Nat) (v : Value) (nt nv : Nat) (sec : ByteArray) (σ : Kept) (τ : Tab) (rs : List Rec) (e : Ev) (h : Src B w sb fb vb mt mv v nt nv sec σ τ rs) (he : Brief e) (hp : sec.size ≤ 60) (hlen : rs.length < 100) (hnv : nv < 1000) (hnt : nt < 1000) (T : Tabs w) (hB : 3 < B) (hd : doesB σ τ e = true) :
    Calls Tryz.prog 10 #[.pointer (some ⟨sb, 0, none⟩), .agg #[.int .i64 e.k, .string e.s, .string e.t, .string e.r, .string e.v]] w fun x w' =>
      ∃ R, R = tellR sec σ rs e ∧ x = .returned (.tuple #[.agg #[.int .i64 (R.q : Int), .string R.s, .int .i64 (R.g : Int), .string R.p, .string R.d], .nilIface]) ∧ (∃ mt' m v', Src B w' sb fb vb mt' (some m) v' (nt + 1) (nv + 1) sec (tellK σ e) (app e τ) (rs ++ [R]) ∧ ∀ j ∈ ownS sb fb vb mt' (some m) v', j ∈ ownS sb fb vb mt mv v ∨ w.heap.size ≤ j) ∧ Stirred (ownS sb fb vb mt mv v) w w' ∧ Below B w w' := by
  refine (do_any B w sb fb vb mt mv v nt nv sec σ τ rs e h he hp hlen hnv hnt T hB).mono ?_
  rintro x w' (⟨_, rfl, hs, ht, hb⟩ | ⟨h1, _⟩)
  · exact ⟨_, rfl, rfl, hs, ht, hb⟩
  · rw [hd] at h1; cases h1
theorem do_no (B : Nat) (w : World) (sb fb vb : Nat) (mt mv : Option Nat) (v : Value) (nt nv : Nat) (sec : ByteArray) (σ : Kept) (τ : Tab) (rs : List Rec) (e : Ev) (h : Src B w sb fb vb mt mv v nt nv sec σ τ rs) (he : Brief e) (hp : sec.size ≤ 60) (hlen : rs.length < 100) (hnv : nv < 1000) (hnt : nt < 1000) (T : Tabs w) (hB : 3 < B) (hd : doesB σ τ e = false) :
    Calls Tryz.prog 10 #[.pointer (some ⟨sb, 0, none⟩), .agg #[.int .i64 e.k, .string e.s, .string e.t, .string e.r, .string e.v]] w fun x w' =>
      (∃ n : Int, x = .returned (.tuple #[.agg #[.int .i64 0, .string ⟨#[]⟩, .int .i64 0, .string ⟨#[]⟩, .string ⟨#[]⟩], .iface 56 (.int .i64 n)])) ∧ Src B w' sb fb vb mt mv v nt nv sec σ τ rs ∧ Below w.heap.size w w' := by
  refine (do_any B w sb fb vb mt mv v nt nv sec σ τ rs e h he hp hlen hnv hnt T hB).mono ?_
  rintro x w' (⟨h1, _⟩ | ⟨_, h2, h3, h4⟩)
  · rw [hd] at h1; cases h1
  · exact ⟨h2, h3, h4⟩
theorem evs_at {w wx : World} {b o : Nat} {e : Ev} {B : Nat} (hb : Below B w wx) (hB : w.heap.size ≤ B) (c : ∀ i u, (evL e)[i]? = some u → w.cell? ⟨b, o + i, none⟩ = some u) :
    wx.cell? ⟨b, o, none⟩ = some (.int .i64 e.k) ∧ wx.cell? ⟨b, o + 1, none⟩ = some (.string e.s) ∧ wx.cell? ⟨b, o + 2, none⟩ = some (.string e.t) ∧ wx.cell? ⟨b, o + 3, none⟩ = some (.string e.r) ∧ wx.cell? ⟨b, o + 4, none⟩ = some (.string e.v) ∧ b < wx.heap.size := by
  have lt : b < w.heap.size := block_lt_of_cell (c 0 _ rfl)
  have g : ∀ i u, (evL e)[i]? = some u → wx.cell? ⟨b, o + i, none⟩ = some u := fun i u hu => (hb.cell (p := ⟨b, o + i, none⟩) (by show b < B; omega)).trans (c i u hu)
  exact ⟨g 0 _ rfl, g 1 _ rfl, g 2 _ rfl, g 3 _ rfl, g 4 _ rfl, Nat.lt_of_lt_of_le lt hb.size⟩
def ptrInt (p : Value) (w : World) : Nat := match p with
  | .pointer (some a) => match w.cell? a with
    | some (.int _ n) => n.toNat
    | _ => 0
  | _ => 0
theorem ptrInt_of {w : World} {I k : Nat} (h : HasR w I 3 #[.int .i64 (k : Int)]) : ptrInt (.pointer (some ⟨I, 0, none⟩)) w = k := by
  have := h.cell 0
  unfold ptrInt
  simp only
  rw [this]
  simp
end Go.Proofs.YtkbaalenbpgheaaGreatDoor
