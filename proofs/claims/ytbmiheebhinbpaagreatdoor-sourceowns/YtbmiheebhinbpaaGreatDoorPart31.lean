/- Texts of this proof, one behind the other. -/
import Derived.Test.YtbmiheebhinbpaaGreatDoorPart30
/- Each row has one owner: what an event that is not refused leaves of a row. -/
namespace Go.Proofs.YtbmiheebhinbpaaGreatDoor
open Go.RowKit Go.Sort
set_option linter.unusedSectionVars false
variable [Inhabited Cl] [Inhabited Ev]
theorem own_some {s v x : ByteArray} (h : ownB (some (s, v)) x = true) : x = s := by
  unfold ownB at h
  simpa [eq_comm] using h
theorem owner {τ : Tab} {e : Ev} {t r s v : ByteArray} (hr : rightB e = true) (h0 : refuseB τ e = 0) (ht : τ t r = some (s, v)) :
    (∃ v', app e τ t r = some (s, v')) ∨ (app e τ t r = none ∧ e.s = s) := by
  rw [app_right hr]
  by_cases k1 : e.k = 1
  · rw [act_put k1]
    by_cases hh : hereB t r e = true
    · rw [if_pos hh]
      unfold hereB at hh
      simp only [Bool.and_eq_true, decide_eq_true_eq] at hh
      obtain ⟨rfl, rfl⟩ := hh
      have : ownB (τ e.t e.r) e.s = true := by
        cases hown : ownB (τ e.t e.r) e.s
        · unfold refuseB at h0
          rw [hown, ht] at h0
          simp [k1] at h0
        · rfl
      rw [ht] at this
      rw [own_some this]
      exact .inl ⟨_, rfl⟩
    · rw [if_neg hh]
      exact .inl ⟨v, ht⟩
  · by_cases k2 : e.k = 2
    · rw [act_del k2]
      by_cases hh : (hereB t r e && ownB (τ t r) e.s) = true
      · rw [if_pos hh]
        rw [Bool.and_eq_true, ht] at hh
        exact .inr ⟨rfl, own_some hh.2⟩
      · rw [if_neg hh]
        exact .inl ⟨v, ht⟩
    · rw [act_gone k1 k2]
      by_cases hh : ownB (τ t r) e.s = true
      · rw [if_pos hh]
        rw [ht] at hh
        exact .inr ⟨rfl, own_some hh⟩
      · rw [if_neg hh]
        exact .inl ⟨v, ht⟩
theorem hereC_iff {d c : Cl} : hereC d c = true ↔ c.t = d.t ∧ c.r = d.r := by
  unfold hereC
  simp
theorem idx_cases (p : Cl → Bool) : ∀ (l : List Cl) (i : Nat), (Lib.idxByFrom (fun _ y => p y) default l i = -1 ∧ ∀ y ∈ l, p y = false) ∨ ∃ j, j < l.length ∧ Lib.idxByFrom (fun _ y => p y) default l i = ((i + j : Nat) : Int) ∧ p l[j]! = true
  | [], i => .inl ⟨rfl, fun y hy => by simp at hy⟩
  | y :: l, i => by
    cases hp : p y
    · have e : Lib.idxByFrom (fun _ y => p y) default (y :: l) i = Lib.idxByFrom (fun _ y => p y) default l (i + 1) := by simp [Lib.idxByFrom, hp]
      rw [e]
      rcases idx_cases p l (i + 1) with ⟨h1, h2⟩ | ⟨j, h1, h2, h3⟩
      · exact .inl ⟨h1, fun z hz => by rcases List.mem_cons.1 hz with e | e; (rw [e]; exact hp); (exact h2 z e)⟩
      · exact .inr ⟨j + 1, by simpa using h1, by rw [h2]; congr 1; omega, by simpa using h3⟩
    · exact .inr ⟨0, by simp, by simp [Lib.idxByFrom, hp], by simpa using hp⟩
/-- What the law asks of each row that was. -/
theorem owns_row {τ : Tab} {e : Ev} {ds cs : List Cl} {k : Nat} (hr : rightB e = true) (h0 : refuseB τ e = 0) (hd : InOrd τ ds) (hc : InOrd (app e τ) cs) (hk : k < ds.length) :
    (placeC ds[k]! cs = -1 ∧ e.s = ds[k]!.s) ∨ ∃ j, j < cs.length ∧ placeC ds[k]! cs = (j : Int) ∧ cs[j]!.s = ds[k]!.s := by
  have hm : ds[k]! ∈ ds := by rw [getElem!_pos ds k hk]; exact List.getElem_mem hk
  generalize ds[k]! = d at hm ⊢
  have ht := (hd.2 d).1 hm
  unfold placeC Lib.idxBy
  rcases idx_cases (hereC d) cs 0 with ⟨h1, h2⟩ | ⟨j, h1, h2, h3⟩
  · refine .inl ⟨h1, ?_⟩
    rcases owner hr h0 ht with ⟨v', h4⟩ | ⟨_, h4⟩
    · have h5 := h2 ⟨d.t, d.r, d.s, v'⟩ ((hc.2 ⟨d.t, d.r, d.s, v'⟩).2 h4)
      have h6 : hereC d ⟨d.t, d.r, d.s, v'⟩ = true := hereC_iff.2 ⟨rfl, rfl⟩
      rw [h5] at h6
      cases h6
    · exact h4
  · refine .inr ⟨j, h1, by rw [h2, Nat.zero_add], ?_⟩
    have hmj : cs[j]! ∈ cs := by rw [getElem!_pos cs j h1]; exact List.getElem_mem h1
    have h5 := (hc.2 _).1 hmj
    obtain ⟨e1, e2⟩ := hereC_iff.1 h3
    rw [e1, e2] at h5
    rcases owner hr h0 ht with ⟨v', h4⟩ | ⟨h4, _⟩
    · rw [h4] at h5
      injection h5 with h5
      injection h5 with h5 _
      exact h5.symm
    · rw [h4] at h5
      cases h5
end Go.Proofs.YtbmiheebhinbpaaGreatDoor

/- The law's own fed: a run of fixed events. -/
namespace Go.Proofs.YtbmiheebhinbpaaGreatDoor
open Go.RowKit Go.Sort
attribute [local go_sem ↓] Go.wp_at_zero Go.wp_at_succ
theorem fedNew (w : World) : Calls Tryz.prog 57 #[.pointer (some ⟨w.heap.size, 0, none⟩)] (w.alloc (.cells #[.string secB, .map none] 119)) fun e w' => e = .returned (.tuple #[.pointer (some ⟨w.heap.size + 1, 0, none⟩), .nilIface]) ∧ Fd w.heap.size w' (w.heap.size + 1) w.heap.size none (.slice none 0 0) 0 secB kept0 [] ∧ Below w.heap.size w w' := by
  have F := feedNew_ok w.heap.size (w.alloc (.cells #[.string secB, .map none] 119))
  rw [World.size_alloc] at F
  refine F.mono ?_
  rintro x w' ⟨rfl, rfl⟩
  have b1 : Below w.heap.size w (w.alloc (.cells #[.string secB, .map none] 119)) := (Below.refl _ w).alloc (Nat.le_refl _) _
  have b2 := b1.alloc b1.size (.cells #[.pointer (some ⟨w.heap.size, 0, none⟩), .slice none 0 0] 133)
  have r1 := (HasR.new w 119 #[.string secB, .map none]).alloc (.cells #[.pointer (some ⟨w.heap.size, 0, none⟩), .slice none 0 0] 133)
  have r2 := HasR.new (w.alloc (.cells #[.string secB, .map none] 119)) 133 #[.pointer (some ⟨w.heap.size, 0, none⟩), .slice none 0 0]
  rw [World.size_alloc] at r2
  exact ⟨rfl, ⟨⟨r2, World.ownsRow_nil _ _ _ _⟩, ⟨r1, fun _ => rfl, (fun m e => by cases e)⟩, b2.size, by omega, Nat.le_refl _, (fun m e => by cases e), (fun g e => by cases e)⟩, b2⟩
theorem rec1 : recA T1 = #[.int .i64 1, .string ⟨#[97, 110, 110]⟩, .int .i64 1, .string ⟨#[0, 0, 0, 0, 0, 0, 0, 0, 0, 0, 0, 0, 0, 0, 0, 0]⟩, .string T1.d] := by
  unfold recA
  rw [T1_g]
  rfl
theorem head0 : headR [] = ⟨#[0, 0, 0, 0, 0, 0, 0, 0, 0, 0, 0, 0, 0, 0, 0, 0]⟩ := rfl
theorem tell1 {B : Nat} {w : World} {fb vb : Nat} (h : Fd B w fb vb none (.slice none 0 0) 0 secB kept0 []) (T : Tabs w) (hB : 3 < B) :
    Calls Tryz.prog 59 #[.pointer (some ⟨fb, 0, none⟩), .agg #[.int .i64 1, .string ⟨#[97, 110, 110]⟩, .string ⟨#[116]⟩, .string ⟨#[114]⟩, .string ⟨#[118]⟩]] w fun x w' =>
      x = .returned (.tuple #[.agg #[.int .i64 1, .string ⟨#[97, 110, 110]⟩, .int .i64 1, .string ⟨#[0, 0, 0, 0, 0, 0, 0, 0, 0, 0, 0, 0, 0, 0, 0, 0]⟩, .string T1.d], .nilIface]) ∧ (∃ m v', Fd B w' fb vb (some m) v' 1 secB K1 [T1] ∧ (∀ g, v'.ownBlock = some g → w.heap.size ≤ g ∧ g < w'.heap.size)) ∧ Stirred [fb, vb] w w' ∧ Below B w w' := by
  refine (h.tell T hB putE putR (fun e => by cases e) (by decide) (fun r hr => by simp at hr) (by decide) (by decide) (fun l => Nat.le_refl 0)).mono ?_
  rintro x w' ⟨rfl, ⟨m, v', hF, hm, hv⟩, hs, hb⟩
  refine ⟨by rw [← rec1]; rfl, ⟨m, v', hF, fun g hg => ⟨?_, ?_⟩⟩, hs, hb⟩
  · rcases hv with e | e
    · rw [hg] at e; cases e
    · exact e g hg
  · obtain ⟨cur, hc⟩ := hF.feed.block hg
    exact hc.lt
theorem tell2 {B : Nat} {w : World} {fb vb m : Nat} {v : Value} (h : Fd B w fb vb (some m) v 1 secB K1 [T1]) (T : Tabs w) (hB : 3 < B) :
    Calls Tryz.prog 59 #[.pointer (some ⟨fb, 0, none⟩), .agg #[.int .i64 3, .string ⟨#[97, 110, 110]⟩, .string ⟨#[]⟩, .string ⟨#[]⟩, .string ⟨#[]⟩]] w fun x w' =>
      (∃ (q g : Int) (s p d : ByteArray), x = .returned (.tuple #[.agg #[.int .i64 q, .string s, .int .i64 g, .string p, .string d], .nilIface])) ∧ (∃ m v', Fd B w' fb vb (some m) v' 2 secB K2 ([T1] ++ [tellR secB K1 [T1] goneE])) ∧ Stirred (fb :: vb :: (m :: v.ownBlock.toList)) w w' ∧ Below B w w' := by
  refine (h.tell T hB goneE goneR (fun _ => by decide +kernel) (by decide) (fun r hr => by simp at hr; subst hr; exact T1_fit) (by decide) (by decide) (fun l => ?_)).mono ?_
  · show (made kept0 putE.s.data.toList l).1 ≤ 1
    unfold made
    split
    · exact Nat.le_refl 1
    · exact Nat.zero_le 1
  · rintro x w' ⟨rfl, ⟨m', v', hF, _, _⟩, hs, hb⟩
    exact ⟨⟨_, _, _, _, _, rfl⟩, ⟨m', v', hF⟩, hs, hb⟩
theorem open1L {B : Nat} {w : World} {fb vb : Nat} {mv : Option Nat} {v : Value} {nv : Nat} {rs : List Rec} (h : Fd B w fb vb mv v nv secB K1 rs) (T : Tabs w) :
    Calls Tryz.prog 19 #[.pointer (some ⟨vb, 0, none⟩), .agg #[.int .i64 1, .string ⟨#[97, 110, 110]⟩, .int .i64 1, .string ⟨#[0, 0, 0, 0, 0, 0, 0, 0, 0, 0, 0, 0, 0, 0, 0, 0]⟩, .string T1.d]] w fun x w' => x = .returned (.tuple #[.agg #[.int .i64 1, .string ⟨#[97, 110, 110]⟩, .string ⟨#[116]⟩, .string ⟨#[114]⟩, .string ⟨#[118]⟩], .nilIface]) ∧ Below w.heap.size w w' := by
  have := open1 h T
  rw [← rec1]
  exact this
theorem open2L {B : Nat} {w : World} {fb vb : Nat} {mv : Option Nat} {v : Value} {nv : Nat} {rs : List Rec} (h : Fd B w fb vb mv v nv secB K2 rs) :
    Calls Tryz.prog 19 #[.pointer (some ⟨vb, 0, none⟩), .agg #[.int .i64 1, .string ⟨#[97, 110, 110]⟩, .int .i64 1, .string ⟨#[0, 0, 0, 0, 0, 0, 0, 0, 0, 0, 0, 0, 0, 0, 0, 0]⟩, .string T1.d]] w fun x w' => x = .returned (.tuple #[.agg #[.int .i64 0, .string ⟨#[]⟩, .string ⟨#[]⟩, .string ⟨#[]⟩, .string ⟨#[]⟩], .iface 45 (.int .i64 8)]) ∧ Below w.heap.size w w' := by
  have := open2 h
  rw [← rec1]
  exact this
theorem guard33 : Tryz.prog.eqGuardType Tryz.prog.depth 35 = false := by kernel_rfl
theorem evNe (w : World) : (binOp .neq 35 (.agg #[.int .i64 1, .string ⟨#[97, 110, 110]⟩, .string ⟨#[116]⟩, .string ⟨#[114]⟩, .string ⟨#[118]⟩]) (.agg #[.int .i64 1, .string ⟨#[97, 110, 110]⟩, .string ⟨#[116]⟩, .string ⟨#[114]⟩, .string ⟨#[118]⟩])).run Tryz.prog w = .ok (.bool false) w := by kernel_rfl
set_option maxRecDepth 100000 in
set_option maxHeartbeats 2000000 in
theorem fed_any (w : World) (T : Tabs w) : Calls Tryz.prog 13 #[] w fun x w' => x = .returned (.bool true) ∧ Below w.heap.size w w' := by
  have hlt := T.k.lt
  have V := hide (vaultNew_ok secB w rfl)
  have F := hide (fedNew w)
  have TA := hide T
  have hne := nilNe
  have hpv := ptrV_nil
  have hpf := ptrF_nil
  have hev := evNe
  have hgd := guard33
  clear T
  go_enter Tryz.func13, Tryz.ntmps13
  go_upto_region 8 with (first
    | (go_at_call 56; refine V.out.mono ?_; rintro x w1 ⟨rfl, rfl⟩)
    | (go_at_call 57; refine F.out.mono ?_; rintro x w2 ⟨rfl, hD, hb2⟩
       have H0 := head_any w2 _ _ _ _ hD.feed (fun r hr => by simp at hr) (by simp) (TA.out.below hb2 hlt).k
       rw [head0] at H0
       have H := hide H0
       have D2 := hide hD
       have B2 := hide hb2
       clear hD hb2 H0)
    | (go_at_call 58; (with_reducible refine H.out.mono ?_); rintro x w3 ⟨rfl, hb3⟩
       have D3 := hide (D2.out.still hb3)
       have B3 := hide (B2.out.trans (hb3.mono B2.out.size))
       clear hb3))
  have HE := hide (HasR.new w3 35 #[.int .i64 1, .string ⟨#[97, 110, 110]⟩, .string ⟨#[116]⟩, .string ⟨#[114]⟩, .string ⟨#[118]⟩])
  have b3e : Below w3.heap.size w3 (w3.alloc (.cells #[.int .i64 1, .string ⟨#[97, 110, 110]⟩, .string ⟨#[116]⟩, .string ⟨#[114]⟩, .string ⟨#[118]⟩] 35)) := (Below.refl _ w3).alloc (Nat.le_refl _) _
  have TC := hide (tell1 (D3.out.still b3e) (TA.out.below (B3.out.trans (b3e.mono B3.out.size)) hlt) hlt)
  have B3E := hide (B3.out.trans (b3e.mono B3.out.size))
  have hfb := D3.out.feed.row.lt
  have hvb := D3.out.keys.row.lt
  have hD := T1_size
  clear V F H D2 B2 b3e
  go_wp2_with (first
    | (go_at_call 59; (with_reducible refine TC.out.mono ?_); rintro x w4 ⟨rfl, ⟨m, v', hF, hg⟩, hs, hb⟩
       have S4 := hide hF; have G4 := hide hg; have B4 := hide (B3E.out.trans hb)
       have H4 := hide (HE.out.turned hs (by simp; omega))
       have h40 : w4.cell? ⟨w3.heap.size, 0, none⟩ = some (.int .i64 1) := H4.out.cell 0
       have h41 : w4.cell? ⟨w3.heap.size, 1, none⟩ = some (.string ⟨#[97, 110, 110]⟩) := H4.out.cell 1
       have h42 : w4.cell? ⟨w3.heap.size, 2, none⟩ = some (.string ⟨#[116]⟩) := H4.out.cell 2
       have h43 : w4.cell? ⟨w3.heap.size, 3, none⟩ = some (.string ⟨#[114]⟩) := H4.out.cell 3
       have h44 : w4.cell? ⟨w3.heap.size, 4, none⟩ = some (.string ⟨#[118]⟩) := H4.out.cell 4
       have hlt4 := H4.out.lt
       have b4 : Below w4.heap.size w4 (w4.alloc (.cells #[.int .i64 1, .string ⟨#[97, 110, 110]⟩, .int .i64 1, .string ⟨#[0, 0, 0, 0, 0, 0, 0, 0, 0, 0, 0, 0, 0, 0, 0, 0]⟩, .string T1.d] 44)) := (Below.refl _ w4).alloc (Nat.le_refl _) _
       have S4a := hide (hF.still b4)
       have B4a := hide (B4.out.trans (b4.mono B4.out.size))
       have O1 := hide (open1L S4a.out (TA.out.below B4a.out hlt))
       have RR := hide (HasR.new w4 44 #[.int .i64 1, .string ⟨#[97, 110, 110]⟩, .int .i64 1, .string ⟨#[0, 0, 0, 0, 0, 0, 0, 0, 0, 0, 0, 0, 0, 0, 0, 0]⟩, .string T1.d])
       have EE := hide (H4.out.below b4 hlt4)
       clear b4
       clear hF hg hs hb)
    | (go_at_call 19; (with_reducible refine O1.out.mono ?_); rintro x w5 ⟨rfl, hb5⟩
       have S5 := hide (S4a.out.still hb5)
       have B5 := hide (B4a.out.trans (hb5.mono B4a.out.size))
       have H5 := hide (EE.out.below hb5 EE.out.lt)
       have R5 := hide (RR.out.below hb5 RR.out.lt)
       have e50 : w5.cell? ⟨w3.heap.size, 0, none⟩ = some (.int .i64 1) := H5.out.cell 0
       have e51 : w5.cell? ⟨w3.heap.size, 1, none⟩ = some (.string ⟨#[97, 110, 110]⟩) := H5.out.cell 1
       have e52 : w5.cell? ⟨w3.heap.size, 2, none⟩ = some (.string ⟨#[116]⟩) := H5.out.cell 2
       have e53 : w5.cell? ⟨w3.heap.size, 3, none⟩ = some (.string ⟨#[114]⟩) := H5.out.cell 3
       have e54 : w5.cell? ⟨w3.heap.size, 4, none⟩ = some (.string ⟨#[118]⟩) := H5.out.cell 4
       have r50 : w5.cell? ⟨w4.heap.size, 0, none⟩ = some (.int .i64 1) := R5.out.cell 0
       have r51 : w5.cell? ⟨w4.heap.size, 1, none⟩ = some (.string ⟨#[97, 110, 110]⟩) := R5.out.cell 1
       have r52 : w5.cell? ⟨w4.heap.size, 2, none⟩ = some (.int .i64 1) := R5.out.cell 2
       have r53 : w5.cell? ⟨w4.heap.size, 3, none⟩ = some (.string ⟨#[0, 0, 0, 0, 0, 0, 0, 0, 0, 0, 0, 0, 0, 0, 0, 0]⟩) := R5.out.cell 3
       have r54 : w5.cell? ⟨w4.heap.size, 4, none⟩ = some (.string T1.d) := R5.out.cell 4
       have hlt5 := H5.out.lt
       have hlr5 := R5.out.lt
       have b5 : Below w5.heap.size w5 (w5.alloc (.cells #[.int .i64 1, .string ⟨#[97, 110, 110]⟩, .string ⟨#[116]⟩, .string ⟨#[114]⟩, .string ⟨#[118]⟩] 35)) := (Below.refl _ w5).alloc (Nat.le_refl _) _
       have S5a := hide (S5.out.still b5)
       have B5a := hide (B5.out.trans (b5.mono B5.out.size))
       have T2 := hide (tell2 S5a.out (TA.out.below B5a.out hlt) hlt)
       have R5a := hide (R5.out.below b5 hlr5)
       clear hb5 b5)
    | (go_at_call 59; (with_reducible refine T2.out.mono ?_); rintro x w6 ⟨⟨q, g, s, p, d, rfl⟩, ⟨m6, v6, hF6⟩, hs6, hb6⟩
       have R6 := hide (R5a.out.turned hs6 (fun hmem => by
         rcases List.mem_cons.1 hmem with e1 | hmem
         · omega
         · rcases List.mem_cons.1 hmem with e1 | hmem
           · omega
           · rcases List.mem_cons.1 hmem with e1 | hmem
             · obtain ⟨Dm, ho, _⟩ := S5a.out.keys.held m rfl
               exact R5a.out.noMap ho e1
             · have := G4.out _ (by simpa using hmem)
               omega))
       have S6 := hide hF6
       have B6 := hide (B5a.out.trans hb6)
       have r60 : w6.cell? ⟨w4.heap.size, 0, none⟩ = some (.int .i64 1) := R6.out.cell 0
       have r61 : w6.cell? ⟨w4.heap.size, 1, none⟩ = some (.string ⟨#[97, 110, 110]⟩) := R6.out.cell 1
       have r62 : w6.cell? ⟨w4.heap.size, 2, none⟩ = some (.int .i64 1) := R6.out.cell 2
       have r63 : w6.cell? ⟨w4.heap.size, 3, none⟩ = some (.string ⟨#[0, 0, 0, 0, 0, 0, 0, 0, 0, 0, 0, 0, 0, 0, 0, 0]⟩) := R6.out.cell 3
       have r64 : w6.cell? ⟨w4.heap.size, 4, none⟩ = some (.string T1.d) := R6.out.cell 4
       have hlr6 := R6.out.lt
       have b6 : Below w6.heap.size w6 (w6.alloc (.cells #[.int .i64 q, .string s, .int .i64 g, .string p, .string d] 44)) := (Below.refl _ w6).alloc (Nat.le_refl _) _
       have O2 := hide (open2L (hF6.still b6))
       have B6a := hide (B6.out.trans (b6.mono B6.out.size))
       clear hs6 hF6 hb6 b6)
    | (go_at_call 19; (with_reducible refine O2.out.mono ?_); rintro x w7 ⟨rfl, hb7⟩
       have B7 := hide (B6a.out.trans (hb7.mono B6a.out.size))
       have A7 := hide (tell_arg 8 w7 (TA.out.below B7.out hlt).e)
       clear hb7)
    | (go_at_call 21; (with_reducible refine A7.out.mono ?_); rintro x w8 ⟨rfl, hb8⟩))
  go_ret
  exact ⟨rfl, B7.out.trans (hb8.mono B7.out.size)⟩
end Go.Proofs.YtbmiheebhinbpaaGreatDoor

/- A fact that the laws begin with: rows. -/
namespace Go.Proofs.YtbmiheebhinbpaaGreatDoor
open Go.RowKit Go.Sort
attribute [local go_sem ↓] Go.wp_at_zero Go.wp_at_succ
set_option linter.unusedSectionVars false
variable [Inhabited Cl] [Inhabited Ev]
theorem tabV_new (w : World) : TabV (w.alloc (.cells #[.map none] 99)) w.heap.size 99 #[] none 0 tab0 := ⟨HasR.new w 99 _, fun _ => rfl, fun m e => by cases e⟩
theorem Upd.below {w w' : World} {b : Nat} {mo mo' : Option Nat} {n B : Nat} {σ : Tab} (h : Upd w w' b 99 #[] mo mo' n σ) (hB : B ≤ w.heap.size) (hL : ∀ k ∈ b :: mo.toList, B ≤ k) : Below B w w' := h.2.2.below hB hL
theorem Upd.low {w w' : World} {b : Nat} {mo mo' : Option Nat} {n B : Nat} {σ : Tab} (h : Upd w w' b 99 #[] mo mo' n σ) (hB : B ≤ w.heap.size) (hL : ∀ k ∈ b :: mo.toList, B ≤ k) : ∀ k ∈ b :: mo'.toList, B ≤ k := by
  obtain ⟨_, h2, _⟩ := h
  rcases h2 with rfl | ⟨rfl, m, rfl, hm⟩
  · exact hL
  · intro k hk
    rcases List.mem_cons.1 hk with rfl | hk
    · exact hL _ (by simp)
    · simp at hk
      omega
theorem put_apply (b : Nat) (w : World) (hV : TabV w b 99 #[] none 0 tab0) :
    Calls Tryz.prog 69 #[.pointer (some ⟨b, 0, none⟩), .agg #[.int .i64 1, .string ⟨#[97, 110, 110]⟩, .string ⟨#[116]⟩, .string ⟨#[114]⟩, .string ⟨#[118]⟩]] w fun x w' => x = .returned .nilIface ∧ ∃ mo', Upd w w' b 99 #[] none mo' 1 (app putE tab0) := by
  have h := apply_any b 99 #[] none putE 0 tab0 w put_brief (by omega) hV
  rw [put_err] at h
  exact h
theorem gone_apply (b : Nat) (mo : Option Nat) (σ : Tab) (w : World) (hV : TabV w b 99 #[] mo 1 σ) :
    Calls Tryz.prog 69 #[.pointer (some ⟨b, 0, none⟩), .agg #[.int .i64 3, .string ⟨#[97, 110, 110]⟩, .string ⟨#[]⟩, .string ⟨#[]⟩, .string ⟨#[]⟩]] w fun x w' => x = .returned .nilIface ∧ ∃ mo', Upd w w' b 99 #[] mo mo' 2 (app goneE σ) := by
  have h := apply_any b 99 #[] mo goneE 1 σ w gone_brief (by omega) hV
  rw [gone_err] at h
  exact h
theorem put_get (b : Nat) (mo : Option Nat) (w : World) (hV : TabV w b 99 #[] mo 1 (app putE tab0)) :
    Calls Tryz.prog 70 #[.pointer (some ⟨b, 0, none⟩), .string ⟨#[116]⟩, .string ⟨#[114]⟩] w fun x w' => x = .returned (.tuple #[.agg #[.string ⟨#[116]⟩, .string ⟨#[114]⟩, .string ⟨#[97, 110, 110]⟩, .string ⟨#[118]⟩], .nilIface]) ∧ Below w.heap.size w w' := by
  have h := get_any b 99 #[] mo ⟨#[116]⟩ ⟨#[114]⟩ 1 _ w (by decide) (by decide) hV
  have eg : getV (app putE tab0) ⟨#[116]⟩ ⟨#[114]⟩ = .tuple #[.agg #[.string ⟨#[116]⟩, .string ⟨#[114]⟩, .string ⟨#[97, 110, 110]⟩, .string ⟨#[118]⟩], .nilIface] := by
    unfold getV; rw [atC_some put_at, put_at]; rfl
  rw [eg] at h
  exact h
theorem none_cells (b : Nat) (mo : Option Nat) (w : World) (hV : TabV w b 99 #[] mo 2 (app goneE (app putE tab0))) :
    Calls Tryz.prog 71 #[.pointer (some ⟨b, 0, none⟩)] w fun x w' => (∃ p c, x = .returned (.slice p 0 c)) ∧ Below w.heap.size w w' := by
  refine (cells_any b 99 #[] mo 2 _ w (by omega) hV).mono ?_
  rintro x w' ⟨v, ds, rfl, ho, _, hr, hb⟩
  rw [gone_all] at ho
  obtain rfl := ho.eq inOrd0
  obtain ⟨p, c, rfl⟩ := hr.len
  exact ⟨⟨p, c, rfl⟩, hb⟩
set_option maxRecDepth 100000 in
set_option maxHeartbeats 2000000 in
theorem applied_any (w : World) : Calls Tryz.prog 25 #[] w fun x w' => x = .returned (.bool true) ∧ Below w.heap.size w w' := by
  have bel0 : Below w.heap.size w (w.alloc (.cells #[.map none] 99)) := (Below.refl _ w).alloc (Nat.le_refl _) _
  have A1 := hide (put_apply w.heap.size (w.alloc (.cells #[.map none] 99)) (tabV_new w))
  have hn := nilIface_ne
  have he := nilIface_eq
  have hc := cell_eql ⟨⟨#[116]⟩, ⟨#[114]⟩, ⟨#[97, 110, 110]⟩, ⟨#[118]⟩⟩ ⟨⟨#[116]⟩, ⟨#[114]⟩, ⟨#[97, 110, 110]⟩, ⟨#[118]⟩⟩
  rw [eqC_self] at hc
  have hg := guard42
  simp only at hc
  go_enter Tryz.func25, Tryz.ntmps25
  go_wp2_with (first
    | (go_at_call 69; (with_reducible refine A1.out.mono ?_); rintro x w1 ⟨rfl, mo1, hu1⟩
       have bel1 := hide (bel0.trans (hu1.below (by simp) (by simp)))
       have low1 := hide (hu1.low (B := w.heap.size) (by simp) (by simp))
       have hs1 := bel1.out.size
       have U1 := hide hu1
       clear hu1
       have G := hide (put_get w.heap.size mo1 w1 U1.out.1))
    | (go_at_call 70; (with_reducible refine G.out.mono ?_); rintro x w2 ⟨rfl, hb2⟩
       have hb3 : Below w1.heap.size w1 (w2.alloc (.cells #[.string ⟨#[116]⟩, .string ⟨#[114]⟩, .string ⟨#[97, 110, 110]⟩, .string ⟨#[118]⟩] 59)) := hb2.alloc hb2.size _
       have hs2 := hb2.size
       have A2 := hide (gone_apply w.heap.size mo1 _ _ (U1.out.1.below hb3))
       have B3 := hide hb3
       clear hb2 hb3)
    | (go_at_call 69; (with_reducible refine A2.out.mono ?_); rintro x w3 ⟨rfl, mo2, hu2⟩
       have U2 := hide hu2
       clear hu2
       have C := hide (none_cells w.heap.size mo2 w3 U2.out.1))
    | (go_at_call 71; (with_reducible refine C.out.mono ?_); rintro x w4 ⟨⟨p, c, rfl⟩, hb4⟩))
  go_ret
  have h3 := U2.out.below (B := w.heap.size) (by simp; omega) low1.out
  exact ⟨rfl, ((bel1.out.trans (B3.out.mono hs1)).trans h3).trans (hb4.mono (by have := h3.size; simp at this; omega))⟩
end Go.Proofs.YtbmiheebhinbpaaGreatDoor
