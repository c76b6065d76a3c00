/- Texts of this proof, one behind the other. -/
import Derived.BigQuiet
import Derived.Deep.DeepCutAuto
import Derived.Test.YtkbaalenbpgheaaGreatDoorPart33
/- The law's own fed: a run of fixed events. -/
namespace Go.Proofs.YtkbaalenbpgheaaGreatDoor
open Go.RowKit Go.Sort
attribute [local go_sem ↓] Go.wp_at_zero Go.wp_at_succ
theorem fedNew (w : World) : Calls Tryz.prog 41 #[.pointer (some ⟨w.heap.size, 0, none⟩)] (w.alloc (.cells #[.string secB, .map none] 101)) fun e w' => e = .returned (.tuple #[.pointer (some ⟨w.heap.size + 1, 0, none⟩), .nilIface]) ∧ Fd w.heap.size w' (w.heap.size + 1) w.heap.size none (.slice none 0 0) 0 secB kept0 [] ∧ Below w.heap.size w w' := by
  have F := feedNew_ok w.heap.size (w.alloc (.cells #[.string secB, .map none] 101))
  rw [World.size_alloc] at F
  refine F.mono ?_
  rintro x w' ⟨rfl, rfl⟩
  have b1 : Below w.heap.size w (w.alloc (.cells #[.string secB, .map none] 101)) := (Below.refl _ w).alloc (Nat.le_refl _) _
  have b2 := b1.alloc b1.size (.cells #[.pointer (some ⟨w.heap.size, 0, none⟩), .slice none 0 0] 126)
  have r1 := (HasR.new w 101 #[.string secB, .map none]).alloc (.cells #[.pointer (some ⟨w.heap.size, 0, none⟩), .slice none 0 0] 126)
  have r2 := HasR.new (w.alloc (.cells #[.string secB, .map none] 101)) 126 #[.pointer (some ⟨w.heap.size, 0, none⟩), .slice none 0 0]
  rw [World.size_alloc] at r2
  exact ⟨rfl, ⟨⟨r2, World.ownsRow_nil _ _ _ _⟩, ⟨r1, fun _ => rfl, (fun m e => by cases e)⟩, b2.size, by omega, Nat.le_refl _, (fun m e => by cases e), (fun g e => by cases e)⟩, b2⟩
theorem rec1 : recA T1 = #[.int .i64 1, .string ⟨#[97, 110, 110]⟩, .int .i64 1, .string ⟨#[0, 0, 0, 0, 0, 0, 0, 0, 0, 0, 0, 0, 0, 0, 0, 0]⟩, .string T1.d] := by
  unfold recA
  rw [T1_g]
  rfl
theorem head0 : headR [] = ⟨#[0, 0, 0, 0, 0, 0, 0, 0, 0, 0, 0, 0, 0, 0, 0, 0]⟩ := rfl
theorem tell1 {B : Nat} {w : World} {fb vb : Nat} (h : Fd B w fb vb none (.slice none 0 0) 0 secB kept0 []) (T : Tabs w) (hB : 3 < B) :
    Calls Tryz.prog 43 #[.pointer (some ⟨fb, 0, none⟩), .agg #[.int .i64 1, .string ⟨#[97, 110, 110]⟩, .string ⟨#[116]⟩, .string ⟨#[114]⟩, .string ⟨#[118]⟩]] w fun x w' =>
      x = .returned (.tuple #[.agg #[.int .i64 1, .string ⟨#[97, 110, 110]⟩, .int .i64 1, .string ⟨#[0, 0, 0, 0, 0, 0, 0, 0, 0, 0, 0, 0, 0, 0, 0, 0]⟩, .string T1.d], .nilIface]) ∧ (∃ m v', Fd B w' fb vb (some m) v' 1 secB K1 [T1] ∧ (∀ g, v'.ownBlock = some g → w.heap.size ≤ g ∧ g < w'.heap.size)) ∧ Stirred [fb, vb] w w' ∧ Below B w w' := by
  refine (h.tell T hB putE putR (fun e => by cases e) (by decide) (fun r hr => by simp at hr) (by decide) (by decide) (fun l => Nat.le_refl 0)).mono ?_
  rintro x w' ⟨rfl, ⟨m, v', hF, hm, hv⟩, hs, hb⟩
  refine ⟨by rw [← rec1]; rfl, ⟨m, v', hF, fun g hg => ⟨?_, ?_⟩⟩, hs, hb⟩
  · rcases hv with e | e
    · rw [hg] at e; cases e
    · exact e g hg
  · obtain ⟨cur, hc⟩ := hF.feed.block hg
    exact hc.lt
theorem tell2 {B : Nat} {w : World} {fb vb m : Nat} {v : Value} (h : Fd B w fb vb (some m) v 1 secB K1 [T1]) (T : Tabs w) (hB : 3 < B) :
    Calls Tryz.prog 43 #[.pointer (some ⟨fb, 0, none⟩), .agg #[.int .i64 3, .string ⟨#[97, 110, 110]⟩, .string ⟨#[]⟩, .string ⟨#[]⟩, .string ⟨#[]⟩]] w fun x w' =>
      (∃ (q g : Int) (s p d : ByteArray), x = .returned (.tuple #[.agg #[.int .i64 q, .string s, .int .i64 g, .string p, .string d], .nilIface])) ∧ (∃ m v', Fd B w' fb vb (some m) v' 2 secB K2 ([T1] ++ [tellR secB K1 [T1] goneE])) ∧ Stirred (fb :: vb :: (m :: v.ownBlock.toList)) w w' ∧ Below B w w' := by
  refine (h.tell T hB goneE goneR (fun _ => by decide +kernel) (by decide) (fun r hr => by simp at hr; subst hr; exact T1_fit) (by decide) (by decide) (fun l => ?_)).mono ?_
  · show (made kept0 putE.s.data.toList l).1 ≤ 1
    unfold made
    split
    · exact Nat.le_refl 1
    · exact Nat.zero_le 1
  · rintro x w' ⟨rfl, ⟨m', v', hF, _, _⟩, hs, hb⟩
    exact ⟨⟨_, _, _, _, _, rfl⟩, ⟨m', v', hF⟩, hs, hb⟩
theorem open1L {B : Nat} {w : World} {fb vb : Nat} {mv : Option Nat} {v : Value} {nv : Nat} {rs : List Rec} (h : Fd B w fb vb mv v nv secB K1 rs) (T : Tabs w) :
    Calls Tryz.prog 22 #[.pointer (some ⟨vb, 0, none⟩), .agg #[.int .i64 1, .string ⟨#[97, 110, 110]⟩, .int .i64 1, .string ⟨#[0, 0, 0, 0, 0, 0, 0, 0, 0, 0, 0, 0, 0, 0, 0, 0]⟩, .string T1.d]] w fun x w' => x = .returned (.tuple #[.agg #[.int .i64 1, .string ⟨#[97, 110, 110]⟩, .string ⟨#[116]⟩, .string ⟨#[114]⟩, .string ⟨#[118]⟩], .nilIface]) ∧ Below w.heap.size w w' := by
  have := open1 h T
  rw [← rec1]
  exact this
theorem open2L {B : Nat} {w : World} {fb vb : Nat} {mv : Option Nat} {v : Value} {nv : Nat} {rs : List Rec} (h : Fd B w fb vb mv v nv secB K2 rs) :
    Calls Tryz.prog 22 #[.pointer (some ⟨vb, 0, none⟩), .agg #[.int .i64 1, .string ⟨#[97, 110, 110]⟩, .int .i64 1, .string ⟨#[0, 0, 0, 0, 0, 0, 0, 0, 0, 0, 0, 0, 0, 0, 0, 0]⟩, .string T1.d]] w fun x w' => x = .returned (.tuple #[.agg #[.int .i64 0, .string ⟨#[]⟩, .string ⟨#[]⟩, .string ⟨#[]⟩, .string ⟨#[]⟩], .iface 56 (.int .i64 8)]) ∧ Below w.heap.size w w' := by
  have := open2 h
  rw [← rec1]
  exact this
theorem guard33 : Tryz.prog.eqGuardType Tryz.prog.depth 36 = false := by kernel_rfl
theorem evNe (w : World) : (binOp .neq 36 (.agg #[.int .i64 1, .string ⟨#[97, 110, 110]⟩, .string ⟨#[116]⟩, .string ⟨#[114]⟩, .string ⟨#[118]⟩]) (.agg #[.int .i64 1, .string ⟨#[97, 110, 110]⟩, .string ⟨#[116]⟩, .string ⟨#[114]⟩, .string ⟨#[118]⟩])).run Tryz.prog w = .ok (.bool false) w := by kernel_rfl
set_option maxRecDepth 100000 in
set_option maxHeartbeats 2000000 in
theorem fed_any (w : World) (T : Tabs w) : Calls Tryz.prog 7 #[] w fun x w' => x = .returned (.bool true) ∧ Below w.heap.size w w' := by
  have hlt := T.k.lt
  have V := hide (vaultNew_ok secB w rfl)
  have F := hide (fedNew w)
  have TA := hide T
  have hne := nilNe
  have hpv := ptrV_nil
  have hpf := ptrF_nil
  have hev := evNe
  have hgd := guard33
  clear T
  go_enter Tryz.func7, Tryz.ntmps7
  go_upto_region 8 with (first
    | (go_at_call 40; refine V.out.mono ?_; rintro x w1 ⟨rfl, rfl⟩)
    | (go_at_call 41; refine F.out.mono ?_; rintro x w2 ⟨rfl, hD, hb2⟩
       have H0 := head_any w2 _ _ _ _ hD.feed (fun r hr => by simp at hr) (by simp) (TA.out.below hb2 hlt).k
       rw [head0] at H0
       have H := hide H0
       have D2 := hide hD
       have B2 := hide hb2
       clear hD hb2 H0)
    | (go_at_call 42; (with_reducible refine H.out.mono ?_); rintro x w3 ⟨rfl, hb3⟩
       have D3 := hide (D2.out.still hb3)
       have B3 := hide (B2.out.trans (hb3.mono B2.out.size))
       clear hb3))
  have HE := hide (HasR.new w3 36 #[.int .i64 1, .string ⟨#[97, 110, 110]⟩, .string ⟨#[116]⟩, .string ⟨#[114]⟩, .string ⟨#[118]⟩])
  have b3e : Below w3.heap.size w3 (w3.alloc (.cells #[.int .i64 1, .string ⟨#[97, 110, 110]⟩, .string ⟨#[116]⟩, .string ⟨#[114]⟩, .string ⟨#[118]⟩] 36)) := (Below.refl _ w3).alloc (Nat.le_refl _) _
  have TC := hide (tell1 (D3.out.still b3e) (TA.out.below (B3.out.trans (b3e.mono B3.out.size)) hlt) hlt)
  have B3E := hide (B3.out.trans (b3e.mono B3.out.size))
  have hfb := D3.out.feed.row.lt
  have hvb := D3.out.keys.row.lt
  have hD := T1_size
  clear V F H D2 B2 b3e
  go_wp2_with (first
    | (go_at_call 43; (with_reducible refine TC.out.mono ?_); rintro x w4 ⟨rfl, ⟨m, v', hF, hg⟩, hs, hb⟩
       have S4 := hide hF; have G4 := hide hg; have B4 := hide (B3E.out.trans hb)
       have H4 := hide (HE.out.turned hs (by simp; omega))
       have h40 : w4.cell? ⟨w3.heap.size, 0, none⟩ = some (.int .i64 1) := H4.out.cell 0
       have h41 : w4.cell? ⟨w3.heap.size, 1, none⟩ = some (.string ⟨#[97, 110, 110]⟩) := H4.out.cell 1
       have h42 : w4.cell? ⟨w3.heap.size, 2, none⟩ = some (.string ⟨#[116]⟩) := H4.out.cell 2
       have h43 : w4.cell? ⟨w3.heap.size, 3, none⟩ = some (.string ⟨#[114]⟩) := H4.out.cell 3
       have h44 : w4.cell? ⟨w3.heap.size, 4, none⟩ = some (.string ⟨#[118]⟩) := H4.out.cell 4
       have hlt4 := H4.out.lt
       have b4 : Below w4.heap.size w4 (w4.alloc (.cells #[.int .i64 1, .string ⟨#[97, 110, 110]⟩, .int .i64 1, .string ⟨#[0, 0, 0, 0, 0, 0, 0, 0, 0, 0, 0, 0, 0, 0, 0, 0]⟩, .string T1.d] 30)) := (Below.refl _ w4).alloc (Nat.le_refl _) _
       have S4a := hide (hF.still b4)
       have B4a := hide (B4.out.trans (b4.mono B4.out.size))
       have O1 := hide (open1L S4a.out (TA.out.below B4a.out hlt))
       have RR := hide (HasR.new w4 30 #[.int .i64 1, .string ⟨#[97, 110, 110]⟩, .int .i64 1, .string ⟨#[0, 0, 0, 0, 0, 0, 0, 0, 0, 0, 0, 0, 0, 0, 0, 0]⟩, .string T1.d])
       have EE := hide (H4.out.below b4 hlt4)
       clear b4
       clear hF hg hs hb)
    | (go_at_call 22; (with_reducible refine O1.out.mono ?_); rintro x w5 ⟨rfl, hb5⟩
       have S5 := hide (S4a.out.still hb5)
       have B5 := hide (B4a.out.trans (hb5.mono B4a.out.size))
       have H5 := hide (EE.out.below hb5 EE.out.lt)
       have R5 := hide (RR.out.below hb5 RR.out.lt)
       have e50 : w5.cell? ⟨w3.heap.size, 0, none⟩ = some (.int .i64 1) := H5.out.cell 0
       have e51 : w5.cell? ⟨w3.heap.size, 1, none⟩ = some (.string ⟨#[97, 110, 110]⟩) := H5.out.cell 1
       have e52 : w5.cell? ⟨w3.heap.size, 2, none⟩ = some (.string ⟨#[116]⟩) := H5.out.cell 2
       have e53 : w5.cell? ⟨w3.heap.size, 3, none⟩ = some (.string ⟨#[114]⟩) := H5.out.cell 3
       have e54 : w5.cell? ⟨w3.heap.size, 4, none⟩ = some (.string ⟨#[118]⟩) := H5.out.cell 4
       have r50 : w5.cell? ⟨w4.heap.size, 0, none⟩ = some (.int .i64 1) := R5.out.cell 0
       have r51 : w5.cell? ⟨w4.heap.size, 1, none⟩ = some (.string ⟨#[97, 110, 110]⟩) := R5.out.cell 1
       have r52 : w5.cell? ⟨w4.heap.size, 2, none⟩ = some (.int .i64 1) := R5.out.cell 2
       have r53 : w5.cell? ⟨w4.heap.size, 3, none⟩ = some (.string ⟨#[0, 0, 0, 0, 0, 0, 0, 0, 0, 0, 0, 0, 0, 0, 0, 0]⟩) := R5.out.cell 3
       have r54 : w5.cell? ⟨w4.heap.size, 4, none⟩ = some (.string T1.d) := R5.out.cell 4
       have hlt5 := H5.out.lt
       have hlr5 := R5.out.lt
       have b5 : Below w5.heap.size w5 (w5.alloc (.cells #[.int .i64 1, .string ⟨#[97, 110, 110]⟩, .string ⟨#[116]⟩, .string ⟨#[114]⟩, .string ⟨#[118]⟩] 36)) := (Below.refl _ w5).alloc (Nat.le_refl _) _
       have S5a := hide (S5.out.still b5)
       have B5a := hide (B5.out.trans (b5.mono B5.out.size))
       have T2 := hide (tell2 S5a.out (TA.out.below B5a.out hlt) hlt)
       have R5a := hide (R5.out.below b5 hlr5)
       clear hb5 b5)
    | (go_at_call 43; (with_reducible refine T2.out.mono ?_); rintro x w6 ⟨⟨q, g, s, p, d, rfl⟩, ⟨m6, v6, hF6⟩, hs6, hb6⟩
       have R6 := hide (R5a.out.turned hs6 (fun hmem => by
         rcases List.mem_cons.1 hmem with e1 | hmem
         · omega
         · rcases List.mem_cons.1 hmem with e1 | hmem
           · omega
           · rcases List.mem_cons.1 hmem with e1 | hmem
             · obtain ⟨Dm, ho, _⟩ := S5a.out.keys.held m rfl
               exact R5a.out.noMap ho e1
             · have := G4.out _ (by simpa using hmem)
               omega))
       have S6 := hide hF6
       have B6 := hide (B5a.out.trans hb6)
       have r60 : w6.cell? ⟨w4.heap.size, 0, none⟩ = some (.int .i64 1) := R6.out.cell 0
       have r61 : w6.cell? ⟨w4.heap.size, 1, none⟩ = some (.string ⟨#[97, 110, 110]⟩) := R6.out.cell 1
       have r62 : w6.cell? ⟨w4.heap.size, 2, none⟩ = some (.int .i64 1) := R6.out.cell 2
       have r63 : w6.cell? ⟨w4.heap.size, 3, none⟩ = some (.string ⟨#[0, 0, 0, 0, 0, 0, 0, 0, 0, 0, 0, 0, 0, 0, 0, 0]⟩) := R6.out.cell 3
       have r64 : w6.cell? ⟨w4.heap.size, 4, none⟩ = some (.string T1.d) := R6.out.cell 4
       have hlr6 := R6.out.lt
       have b6 : Below w6.heap.size w6 (w6.alloc (.cells #[.int .i64 q, .string s, .int .i64 g, .string p, .string d] 30)) := (Below.refl _ w6).alloc (Nat.le_refl _) _
       have O2 := hide (open2L (hF6.still b6))
       have B6a := hide (B6.out.trans (b6.mono B6.out.size))
       clear hs6 hF6 hb6 b6)
    | (go_at_call 22; (with_reducible refine O2.out.mono ?_); rintro x w7 ⟨rfl, hb7⟩
       have B7 := hide (B6a.out.trans (hb7.mono B6a.out.size))
       have A7 := hide (tell_arg 8 w7 (TA.out.below B7.out hlt).e)
       clear hb7)
    | (go_at_call 23; (with_reducible refine A7.out.mono ?_); rintro x w8 ⟨rfl, hb8⟩))
  go_ret
  exact ⟨rfl, B7.out.trans (hb8.mono B7.out.size)⟩
end Go.Proofs.YtkbaalenbpgheaaGreatDoor

/- Are records one behind the other? The program's Whole, of records that are. -/
namespace Go.Proofs.YtkbaalenbpgheaaGreatDoor
open Go.RowKit
attribute [local go_sem ↓] Go.wp_at_zero Go.wp_at_succ
theorem HasR.one {w : World} {b : Nat} {t : TypeId} {a0 : Value} (h : HasR w b t #[a0]) (v0 : Value) : HasR (w.setCell ⟨b, 0, none⟩ v0) b t #[v0] := h.set 0 v0
end Go.Proofs.YtkbaalenbpgheaaGreatDoor

/- What was told is read: the law's own walk. -/
namespace Go.Proofs.YtkbaalenbpgheaaGreatDoor
open Go.RowKit Go.Sort
attribute [local go_sem ↓] Go.wp_at_zero Go.wp_at_succ
set_option linter.unusedSectionVars false
variable [Inhabited Cl] [Inhabited Ev]
/-- What the loop has: the place, the box of what was done, the source, its records. -/
structure Fb (w0 w : World) (B : Nat) (st : Hst) (I k bo : Nat) (vok vrows : Value) (vals : List Value) (base : Nat) (vf : Value) : Prop where
  i : HasR w I 3 #[.int .i64 k]
  box : HasR w bo 22 #[vok]
  dn : Dn B w st.σ st.τ st.rs st.ok.length st.ok vok vrows vals
  fd : w.ownsRow base 30 5 vf st.ok.length (recsL st.rs)
  bel : Below w0.heap.size w0 w
theorem Fb.still {w0 w w' : World} {B : Nat} {st : Hst} {I k bo : Nat} {vok vrows : Value} {vals : List Value} {base : Nat} {vf : Value} (h : Fb w0 w B st I k bo vok vrows vals base vf) (b : Below w.heap.size w w') : Fb w0 w' B st I k bo vok vrows vals base vf :=
  ⟨h.i.below b h.i.lt, h.box.below b h.box.lt, h.dn.still b, ownsRow_below h.fd b, h.bel.trans (b.mono h.bel.size)⟩
theorem Fb.fin {w0 w w' : World} {B : Nat} {st : Hst} {I k bo : Nat} {vok vrows : Value} {vals : List Value} {base : Nat} {vf : Value} (h : Fb w0 w B st I k bo vok vrows vals base vf) (w1 : World) (h1 : Fb w0 w1 B st I k bo vok vrows vals base vf) (b : Below w1.heap.size w1 w') (hk : k < st.ok.length) :
    (∃ I' k' : Nat, k' ≤ st.ok.length ∧ Value.pointer (some ⟨w'.heap.size, 0, none⟩) = Value.pointer (some ⟨I', 0, none⟩) ∧ Fb w0 (w'.alloc (.cells #[.int .i64 ((k : Int) + 1)] 3)) B st I' k' bo vok vrows vals base vf) ∧
      st.ok.length - ptrInt (.pointer (some ⟨w'.heap.size, 0, none⟩)) (w'.alloc (.cells #[.int .i64 ((k : Int) + 1)] 3)) < st.ok.length - ptrInt (.pointer (some ⟨I, 0, none⟩)) w := by
  have s := h1.still (b.alloc b.size (.cells #[.int .i64 ((k : Int) + 1)] 3))
  have hs : Fb w0 (w'.alloc (.cells #[.int .i64 ((k : Int) + 1)] 3)) B st w'.heap.size (k + 1) bo vok vrows vals base vf := ⟨HasR.new w' 3 _, s.box, s.dn, s.fd, s.bel⟩
  refine ⟨⟨w'.heap.size, k + 1, hk, rfl, hs⟩, ?_⟩
  rw [ptrInt_of hs.i, ptrInt_of h.i]
  omega
theorem block_of {w : World} {b : Nat} {t : TypeId} {n len : Nat} {p : Option Addr} {cap m : Nat} {l : List Value} (h : w.ownsRow b t n (.slice p m cap) len l) (hl : 0 < len) : ∃ g, p = some ⟨g, 0, none⟩ ∧ m = len := by
  obtain ⟨g, cap', e, _⟩ := h.form hl
  simp only [Value.slice.injEq] at e
  exact ⟨g, e.1, e.2.1⟩
theorem evs_c {w : World} {base g cap : Nat} {es : List Ev} {k : Nat} (h : w.ownsRow base 36 5 (.slice (some ⟨g, 0, none⟩) es.length cap) es.length (evsL es)) (hk : k < es.length) : w.cell? ⟨g, k * 5, none⟩ = some (.int .i64 (es.getD k ev0).k) ∧ w.cell? ⟨g, k * 5 + 1, none⟩ = some (.string (es.getD k ev0).s) ∧ w.cell? ⟨g, k * 5 + 2, none⟩ = some (.string (es.getD k ev0).t) ∧ w.cell? ⟨g, k * 5 + 3, none⟩ = some (.string (es.getD k ev0).r) ∧ w.cell? ⟨g, k * 5 + 4, none⟩ = some (.string (es.getD k ev0).v) ∧ g < w.heap.size := by
  have c : ∀ i, i < 5 → w.cell? ⟨g, k * 5 + i, none⟩ = (evL (es.getD k ev0))[i]? := fun i hi => (h.cellAt (k * 5 + i) (by omega)).trans (evsL_at es k i hk hi)
  have c0 : w.cell? ⟨g, k * 5, none⟩ = some (.int .i64 (es.getD k ev0).k) := c 0 (by omega)
  exact ⟨c0, c 1 (by omega), c 2 (by omega), c 3 (by omega), c 4 (by omega), block_lt_of_cell c0⟩
theorem recs_c {w : World} {base g cap m : Nat} {rs : List Rec} {k : Nat} (h : w.ownsRow base 30 5 (.slice (some ⟨g, 0, none⟩) m cap) m (recsL rs)) (hm : rs.length = m) (hk : k < m) : w.cell? ⟨g, k * 5, none⟩ = some (.int .i64 ((rs.getD k recZ).q : Int)) ∧ w.cell? ⟨g, k * 5 + 1, none⟩ = some (.string (rs.getD k recZ).s) ∧ w.cell? ⟨g, k * 5 + 2, none⟩ = some (.int .i64 ((rs.getD k recZ).g : Int)) ∧ w.cell? ⟨g, k * 5 + 3, none⟩ = some (.string (rs.getD k recZ).p) ∧ w.cell? ⟨g, k * 5 + 4, none⟩ = some (.string (rs.getD k recZ).d) ∧ g < w.heap.size := by
  subst hm
  have c : ∀ i, i < 5 → w.cell? ⟨g, k * 5 + i, none⟩ = (recL (rs.getD k recZ))[i]? := fun i hi => (h.cellAt (k * 5 + i) (by omega)).trans (recsL_at rs k i hk hi)
  have c0 : w.cell? ⟨g, k * 5, none⟩ = some (.int .i64 ((rs.getD k recZ).q : Int)) := c 0 (by omega)
  exact ⟨c0, c 1 (by omega), c 2 (by omega), c 3 (by omega), c 4 (by omega), block_lt_of_cell c0⟩
theorem Fb.vault {w0 w : World} {B : Nat} {st : Hst} {I k bo : Nat} {vok vrows : Value} {vals : List Value} {base : Nat} {vf : Value} (h : Fb w0 w B st I k bo vok vrows vals base vf) : Calls Tryz.prog 20 #[.pointer (some ⟨B + 2, 0, none⟩)] w fun x w' => x = .returned (.pointer (some ⟨B, 0, none⟩)) ∧ w' = w := by
  obtain ⟨mt, mv, v, hS, _⟩ := h.dn.src
  exact srcVault_any _ w _ _ _ _ _ _ _ _ _ _ _ _ hS
end Go.Proofs.YtkbaalenbpgheaaGreatDoor
