/- Texts of this proof, one behind the other. -/
import Derived.Deep.AppendLies
import Derived.Deep.RegionLaw
import Derived.Test.YtdjpghgnjcmdnaaGreatDoorPart20
/- A feed is told an event. -/
namespace Go.Proofs.YtdjpghgnjcmdnaaGreatDoor
open Go.RowKit
attribute [local go_sem ↓] Go.wp_at_zero Go.wp_at_succ
/-- What is told of an event, and what is left of the keys. -/
def newR (rs : List Rec) (e : Ev) : Rec := ⟨rs.length + 1, e.s, 0, headR rs, ⟨#[]⟩⟩
def tellR (sec : ByteArray) (σ : Kept) (rs : List Rec) (e : Ev) : Rec := if e.k = 3 then { newR rs e with d := textB e } else sealR sec σ (newR rs e) (textB e)
def tellK (σ : Kept) (e : Ev) : Kept := if e.k = 3 then gone σ e.s.data.toList else made σ e.s.data.toList
theorem HasR.apartT {w : World} {b b' : Nat} {t t' : TypeId} {cs cs' : Array Value} (h : HasR w b t cs) (h' : HasR w b' t' cs') (hne : t ≠ t') : b ≠ b' := by
  intro e
  subst e
  unfold HasR at h h'
  rw [h] at h'
  injection h' with h1
  injection h1 with _ h2
  exact hne h2
theorem HasR.noMap {w : World} {b m n : Nat} {t k : TypeId} {cs : Array Value} {R : Value → Option (DataW Unit × List MemPlace)} {D : DataW Unit} (h : HasR w b t cs) (ho : w.ownsMap Tryz.prog k R m n D) : b ≠ m := by
  intro e
  subst e
  obtain ⟨es, clock, hh, _⟩ := ho
  unfold HasR at h
  rw [h] at hh
  cases hh
/-- The row of records is no other's block. -/
theorem FeedV.free {w : World} {fb vb : Nat} {v : Value} {rs : List Rec} (h : FeedV w fb vb v rs) {mo : Option Nat} {sec : ByteArray} {n : Nat} {σ : Kept} (hV : ProgV w vb mo sec n σ) : fb ∉ vb :: mo.toList ∧ ∀ g, v.ownBlock = some g → g ∉ fb :: vb :: mo.toList := by
  have hm : ∀ m, m ∈ mo.toList → ∃ D, w.ownsMap Tryz.prog 9 holdElem m n D := fun m hm => by
    obtain ⟨D, ho, _⟩ := hV.held m (by simpa using hm)
    exact ⟨D, ho⟩
  refine ⟨fun hmem => ?_, fun g hg hmem => ?_⟩
  · rcases List.mem_cons.1 hmem with e | e
    · exact h.row.apartT hV.row (by decide) e
    · obtain ⟨D, ho⟩ := hm _ e
      exact h.row.noMap ho rfl
  · rcases h.own.2 with ⟨e, _⟩ | ⟨g', cap, cur, e, hb, hh, _⟩
    · rw [e] at hg; cases hg
    · rw [e] at hg
      have hg1 : some g' = some g := hg
      simp only [Option.some.injEq] at hg1
      subst hg1
      have hr : HasR w g' 74 cur := hh
      rcases List.mem_cons.1 hmem with e | hmem
      · omega
      · rcases List.mem_cons.1 hmem with e | e
        · exact hr.apartT hV.row (by decide) e
        · obtain ⟨D, ho⟩ := hm _ e
          exact hr.noMap ho rfl
theorem newR_fit {rs : List Rec} {e : Ev} (hl : rs.length < 100) (hs : e.s.size ≤ 60) : Fit (newR rs e) := ⟨by show rs.length + 1 < 1000000; omega, by show 0 < 1000000; omega, hs, by show (headR rs).size ≤ 60; rw [headR_size]; omega, by show (0 : Nat) ≤ 1000; omega⟩
theorem text_size {e : Ev} (h : rightB e = true) : (textB e).size ≤ 400 := by
  have := print_len h
  have h2 : (textB e).size = (printL e).length := Lib.size_eq _
  omega
theorem subj_size {e : Ev} (h : rightB e = true) : e.s.size ≤ 60 ∧ nameB e.s.data.toList = true := by
  obtain ⟨hs, _⟩ := right_kinds h
  have := name_len hs
  have h2 : e.s.size = e.s.data.toList.length := Lib.size_eq _
  exact ⟨by omega, hs⟩
theorem Stirred.of_grownO {w w' : World} {o : Option Nat} (h : w.grownBy w' o) : Stirred o.toList w w' := ⟨h.os, h.tape, h.output, h.size, fun k hk hn => h.block k hk (fun e => hn (by rw [← e]; simp))⟩
/-- Behind the append and the store of what it answers. -/
theorem tell_end {wc wA w6 : World} {fb vb m gg cp : Nat} {v : Value} {rs : List Rec} {T : Rec} {sec : ByteArray} {n : Nat} {σ : Kept} (F : FeedV wc fb vb v rs) (V : ProgV wc vb (some m) sec n σ) (hA : Below wc.heap.size wc wA) (hg : wA.grownBy w6 v.ownBlock) (ho : w6.ownsRow (fb + 1) 74 5 (.slice (some ⟨gg, 0, none⟩) (rs.length + 1) cp) (rs.length + 1) (recsL rs ++ recL T)) :
    Stirred (fb :: v.ownBlock.toList) wc (w6.setCell ⟨fb, 1, none⟩ (.slice (some ⟨gg, 0, none⟩) (rs.length + 1) cp)) ∧ FeedV (w6.setCell ⟨fb, 1, none⟩ (.slice (some ⟨gg, 0, none⟩) (rs.length + 1) cp)) fb vb (.slice (some ⟨gg, 0, none⟩) (rs.length + 1) cp) (rs ++ [T]) ∧ ProgV (w6.setCell ⟨fb, 1, none⟩ (.slice (some ⟨gg, 0, none⟩) (rs.length + 1) cp)) vb (some m) sec n σ := by
  obtain ⟨fr1, fr2⟩ := F.free V
  have t6 : Stirred v.ownBlock.toList wc w6 := (Stirred.of_below hA _).andThen (Stirred.of_grownO hg) (fun j hj => .inl hj)
  have ts : Stirred [fb] w6 (w6.setCell ⟨fb, 1, none⟩ (.slice (some ⟨gg, 0, none⟩) (rs.length + 1) cp)) := Stirred.setCell w6 ⟨fb, 1, none⟩ _
  have t7 : Stirred (fb :: v.ownBlock.toList) wc (w6.setCell ⟨fb, 1, none⟩ (.slice (some ⟨gg, 0, none⟩) (rs.length + 1) cp)) := (t6.mono (fun j hj => List.mem_cons_of_mem _ hj)).andThen ts (fun j hj => .inl (by simp at hj; simp [hj]))
  have nf : fb ∉ v.ownBlock.toList := fun hm => fr2 fb (by simpa using hm) (by simp)
  refine ⟨t7, ⟨?_, ?_⟩, V.turned t7 (fun hm => ?_) (fun m' e hm => ?_)⟩
  · have := (F.row.turned t6 nf).set 1 (.slice (some ⟨gg, 0, none⟩) (rs.length + 1) cp)
    exact this
  · rw [List.length_append, recsL_snoc]
    refine ho.kept (row := some fb) ⟨ts.os, ts.tape, ts.output, ts.size, fun k hk hn => ts.block k hk (by simp; intro e1; exact hn (by rw [e1]))⟩ (.inr (fun e1 => ?_))
    have h0 := (ho.lt gg rfl).1
    have h1 : some gg = some fb := e1
    simp only [Option.some.injEq] at h1
    omega
  · rcases List.mem_cons.1 hm with e | e
    · exact fr1 (by rw [← e]; simp)
    · exact fr2 vb (by simpa using e) (by simp)
  · cases e
    rcases List.mem_cons.1 hm with e | e
    · exact fr1 (by rw [← e]; simp)
    · exact fr2 m (by simpa using e) (by simp)
theorem info66 : (Tryz.prog.info? 74).map (fun i => (i.zero, i.size, i.bytes)) = some (some (.agg rec0), 5, 64) := by kernel_rfl
set_option maxRecDepth 100000 in
set_option maxHeartbeats 4000000 in
theorem tell_ok (w : World) (fb vb : Nat) (v : Value) (rs : List Rec) (mo : Option Nat) (sec : ByteArray) (n : Nat) (σ : Kept) (e : Ev) (hF : FeedV w fb vb v rs) (hV : ProgV w vb mo sec n σ) (hr : rightB e = true) (hg : e.k = 3 → (σ e.s.data.toList).2 = true) (hp : sec.size ≤ 60) (hfit : ∀ r ∈ rs, Fit r) (hlen : rs.length < 100) (hn : n < 1000) (hσ : ∀ l, (σ l).1 ≤ n) (hK : TabK w) (hL : TabL w) (hKS : ∀ w', Stirred (vb :: mo.toList) w w' → TabK w') :
    Calls Tryz.prog 78 #[.pointer (some ⟨fb, 0, none⟩), .agg #[.int .i64 e.k, .string e.s, .string e.t, .string e.r, .string e.v]] w fun x w' =>
      x = .returned (.tuple #[.agg (recA (tellR sec σ rs e)), .nilIface]) ∧ ∃ m, ProgV w' vb (some m) sec (n + 1) (tellK σ e) ∧ (mo = some m ∨ (mo = none ∧ w.heap.size ≤ m)) ∧ ∃ v', FeedV w' fb vb v' (rs ++ [tellR sec σ rs e]) ∧ (v'.ownBlock = v.ownBlock ∨ ∀ g, v'.ownBlock = some g → w.heap.size ≤ g) ∧ Stirred (fb :: vb :: (mo.toList ++ v.ownBlock.toList)) w w' := by
  obtain ⟨hs60, hname⟩ := subj_size hr
  have htx := text_size hr
  have bel : Below w.heap.size w ((w.alloc (.cells #[.int .i64 e.k, .string e.s, .string e.t, .string e.r, .string e.v] 69)).alloc (.cells rec0 74)) := ((Below.refl _ w).alloc (Nat.le_refl _) _).alloc (by simp) _
  have P := hide (print_ok e.k e.s e.t e.r e.v ((w.alloc (.cells #[.int .i64 e.k, .string e.s, .string e.t, .string e.r, .string e.v] 69)).alloc (.cells rec0 74)) hr (hL.below bel hL.lt))
  rw [show (⟨e.k, e.s, e.t, e.r, e.v⟩ : Ev) = e from rfl] at P
  have E3 := hide ((HasR.new w 69 #[.int .i64 e.k, .string e.s, .string e.t, .string e.r, .string e.v]).alloc (.cells rec0 74))
  have E4 := hide (HasR.new (w.alloc (.cells #[.int .i64 e.k, .string e.s, .string e.t, .string e.r, .string e.v] 69)) 74 rec0)
  rw [World.size_alloc] at E4
  have hq := ptrF_nil fb
  have hne := nilNe
  obtain ⟨p, c, rfl⟩ := hF.slice
  have HF := hide hF
  have HV := hide hV
  have BL := hide bel
  have HKS := hide hKS
  have HFI := hide hfit
  have HK := hide hK
  have hfb := hF.row.lt
  have hl100 : ¬ (100 : Int) ≤ (rs.length : Int) := by omega
  generalize hTx : textB e = tx at P htx
  clear hF hV bel hKS hfit hL hK
  unfold rec0 at P E3 E4 BL
  go_enter Tryz.func78, Tryz.ntmps78
  go_upto_region 8 with (go_at_call 75; (with_reducible refine P.out.mono ?_); rintro x w1 ⟨rfl, hb1⟩; have B1 := hide (BL.out.trans (hb1.mono BL.out.size)); have X3 := hide (E3.out.below hb1 E3.out.lt); have X4 := hide (E4.out.below hb1 E4.out.lt); have F1 := hide (HF.out.below (BL.out.trans (hb1.mono BL.out.size))); have f1 : w1.cell? ⟨fb, 1, none⟩ = some (.slice p rs.length c) := F1.out.row.cell 1; clear hb1)
  have y1 : w1.cell? ⟨w.heap.size, 1, none⟩ = some (.string e.s) := X3.out.cell 1
  have HKw := hide (fun wx (hb : Below w1.heap.size w1 wx) => HK.out.below (B1.out.trans (hb.mono B1.out.size)) HK.out.lt)
  have HD := hide (fun wx (hb : Below w1.heap.size w1 wx) => head_any wx fb vb _ rs (F1.out.below hb) HFI.out (by omega) (HKw.out wx hb))
  have hl1 := B1.out.size
  have hwr : IntKind.i64.wrap ((rs.length : Int) + 1) = (rs.length : Int) + 1 := by rw [IntKind.wrap_i64]; omega
  have hx3 := X3.out.lt
  have ne1 : w1.heap.size ≠ w.heap.size := by omega
  have ne2 : w1.heap.size ≠ fb := by omega
  have ne5 : w.heap.size ≠ w1.heap.size := by omega
  have ne6 : fb ≠ w1.heap.size := by omega
  go_cut [8] (fun s8 wx => ∃ B8 : Nat, s8 = .pointer (some ⟨B8, 0, none⟩) ∧ w1.heap.size ≤ B8 ∧ HasR wx B8 74 #[.int .i64 ((rs.length : Int) + 1), .string e.s, .int .i64 0, .string (headR rs), .string ⟨#[]⟩] ∧ Below w1.heap.size w1 wx)
  case first =>
    go_region_held3 (fun wx => wx.cell? ⟨w.heap.size, 1, none⟩ = some (.string e.s) ∧ wx.cell? ⟨fb, 1, none⟩ = some (.slice p rs.length c)) (first | (with_reducible exact K2.out) | go_keep)
      (first
      | (go_at_call 116; (with_reducible refine (HD.out _ (Below.refl _ w1).drew).mono ?_); rintro x w2 ⟨rfl, hb2⟩; have B2 := hide ((Below.refl w1.heap.size w1).drew.trans hb2); have y2 : w2.cell? ⟨w.heap.size, 1, none⟩ = some (.string e.s) := (B2.out.cell hx3).trans y1; have f2 : w2.cell? ⟨fb, 1, none⟩ = some (.slice p rs.length c) := (B2.out.cell (p := ⟨fb, 1, none⟩) (by show fb < _; omega)).trans f1; have K2 := hide (And.intro y2 f2); have hw2 := B2.out.size; have ne3 : w2.heap.size ≠ w.heap.size := (by omega); have ne4 : w2.heap.size ≠ fb := (by omega); have ne7 : w.heap.size ≠ w2.heap.size := (by omega); have ne8 : fb ≠ w2.heap.size := (by omega); clear hb2)
      | (go_at_call 116; (with_reducible refine (HD.out _ ((Below.refl _ w1).alloc (Nat.le_refl _) _).drew).mono ?_); rintro x w2 ⟨rfl, hb2⟩; have X8 := hide ((HasR.new w1 74 #[.int .i64 0, .string ⟨#[]⟩, .int .i64 0, .string ⟨#[]⟩, .string ⟨#[]⟩]).drew.below hb2 (HasR.new w1 74 _).drew.lt); have B2 := hide (((Below.refl w1.heap.size w1).alloc (Nat.le_refl _) (.cells #[.int .i64 0, .string ⟨#[]⟩, .int .i64 0, .string ⟨#[]⟩, .string ⟨#[]⟩] 74)).drew.trans (hb2.mono ((Below.refl w1.heap.size w1).alloc (Nat.le_refl _) (.cells #[.int .i64 0, .string ⟨#[]⟩, .int .i64 0, .string ⟨#[]⟩, .string ⟨#[]⟩] 74)).drew.size)); have y2 : w2.cell? ⟨w.heap.size, 1, none⟩ = some (.string e.s) := (B2.out.cell hx3).trans y1; have f2 : w2.cell? ⟨fb, 1, none⟩ = some (.slice p rs.length c) := (B2.out.cell (p := ⟨fb, 1, none⟩) (by show fb < _; omega)).trans f1; have z0 : w2.cell? ⟨w1.heap.size, 0, none⟩ = some (.int .i64 0) := X8.out.cell 0; have z1 : w2.cell? ⟨w1.heap.size, 1, none⟩ = some (.string ⟨#[]⟩) := X8.out.cell 1; have z2 : w2.cell? ⟨w1.heap.size, 2, none⟩ = some (.int .i64 0) := X8.out.cell 2; have z3 : w2.cell? ⟨w1.heap.size, 3, none⟩ = some (.string ⟨#[]⟩) := X8.out.cell 3; have z4 : w2.cell? ⟨w1.heap.size, 4, none⟩ = some (.string ⟨#[]⟩) := X8.out.cell 4; have o0 : w2.frozen? ⟨w1.heap.size, 0, none⟩ = false := X8.out.free 0; have o1 : w2.frozen? ⟨w1.heap.size, 1, none⟩ = false := X8.out.free 1; have o2 : w2.frozen? ⟨w1.heap.size, 2, none⟩ = false := X8.out.free 2; have o3 : w2.frozen? ⟨w1.heap.size, 3, none⟩ = false := X8.out.free 3; have o4 : w2.frozen? ⟨w1.heap.size, 4, none⟩ = false := X8.out.free 4; have K2 := hide (And.intro y2 f2); have hw2 := B2.out.size; have ne3 : w2.heap.size ≠ w.heap.size := (by omega); have ne4 : w2.heap.size ≠ fb := (by omega); have ne7 : w.heap.size ≠ w2.heap.size := (by omega); have ne8 : fb ≠ w2.heap.size := (by omega); clear hb2))
    all_goals
      go_wp2
      go_meet
      first
        | exact ⟨w1.heap.size, rfl, Nat.le_refl _, HasR.five X8.out _ _ _ _ _, B2.out.trans ((stir5 w2 w1.heap.size _ _ _ _ _).below B2.out.size (fun j hj => by simp at hj; omega))⟩
        | exact ⟨w2.heap.size, rfl, hw2, HasR.new w2 74 _, B2.out.alloc B2.out.size _⟩
  case rest =>
    clear y1 HD ne1 ne2 ne5 ne6 f1
    obtain ⟨B8, rfl, hB8, hX8, hb8⟩ := hcut
    have hw8 := hb8.size
    have hx8 := hX8.lt
    have V1 := hide (HV.out.below B1.out)
    have V8 := hide (V1.out.below hb8)
    have F8 := hide (F1.out.below hb8)
    have X38 := hide (X3.out.below hb8 X3.out.lt)
    have X48 := hide (X4.out.below hb8 X4.out.lt)
    have H8 := hide hX8
    have BB := hide hb8
    have k0 : wc.cell? ⟨w.heap.size, 0, none⟩ = some (.int .i64 e.k) := X38.out.cell 0
    have v0 : wc.cell? ⟨fb, 0, none⟩ = some (.pointer (some ⟨vb, 0, none⟩)) := F8.out.row.cell 0
    have c0 : wc.cell? ⟨B8, 0, none⟩ = some (.int .i64 ((rs.length : Int) + 1)) := H8.out.cell 0
    have c1 : wc.cell? ⟨B8, 1, none⟩ = some (.string e.s) := H8.out.cell 1
    have c2 : wc.cell? ⟨B8, 2, none⟩ = some (.int .i64 0) := H8.out.cell 2
    have c3 : wc.cell? ⟨B8, 3, none⟩ = some (.string (headR rs)) := H8.out.cell 3
    have c4 : wc.cell? ⟨B8, 4, none⟩ = some (.string ⟨#[]⟩) := H8.out.cell 4
    have o0 : wc.frozen? ⟨B8, 0, none⟩ = false := H8.out.free 0
    have o1 : wc.frozen? ⟨B8, 1, none⟩ = false := H8.out.free 1
    have o2 : wc.frozen? ⟨B8, 2, none⟩ = false := H8.out.free 2
    have o3 : wc.frozen? ⟨B8, 3, none⟩ = false := H8.out.free 3
    have o4 : wc.frozen? ⟨B8, 4, none⟩ = false := H8.out.free 4
    have Vd := hide (V8.out.below (Below.refl _ wc).drew)
    have Kd := hide (HKw.out _ hb8.drew)
    have nr := newR_fit (rs := rs) (e := e) hlen hs60
    have FO : Hid (e.k = 3 → Calls Tryz.prog 117 #[.pointer (some ⟨vb, 0, none⟩), .agg #[.int .i64 ((rs.length : Int) + 1), .string e.s, .int .i64 0, .string (headR rs), .string ⟨#[]⟩], .string tx] wc.drew fun x w' => x = .returned (.tuple #[.agg #[.int .i64 ((rs.length : Int) + 1), .string e.s, .int .i64 0, .string (headR rs), .string tx], .nilIface]) ∧ Keeps wc.drew w' vb mo sec (n + 1) (gone σ e.s.data.toList)) := fun hk => forgetF_held vb mo sec n σ (newR rs e) tx wc.drew hs60 hn Vd.out (hg hk)
    have SE : Hid (Calls Tryz.prog 118 #[.pointer (some ⟨vb, 0, none⟩), .agg #[.int .i64 ((rs.length : Int) + 1), .string e.s, .int .i64 0, .string (headR rs), .string ⟨#[]⟩], .string tx] wc.drew fun x w' => x = .returned (.tuple #[.agg #[.int .i64 ((sealR sec σ (newR rs e) tx).q : Int), .string (sealR sec σ (newR rs e) tx).s, .int .i64 ((sealR sec σ (newR rs e) tx).g : Int), .string (sealR sec σ (newR rs e) tx).p, .string (sealR sec σ (newR rs e) tx).d], .nilIface]) ∧ Keeps wc.drew w' vb mo sec (n + 1) (made σ e.s.data.toList)) := sealF_any vb mo sec n σ (newR rs e) tx wc.drew hp nr hn (hσ _) hname Kd.out (fun w' ts => HKS.out w' ((Stirred.of_below (B1.out.trans (hb8.drew.mono B1.out.size)) _).andThen ts (fun j hj => .inl hj))) htx Vd.out
    obtain ⟨T, hT⟩ : ∃ T, T = tellR sec σ rs e := ⟨_, rfl⟩
    have HTT := hide hT
    clear hT
    have NIN : Hid (B8 ∉ vb :: mo.toList) := fun hmem => by
      have h1 := HV.out.row.lt
      rcases List.mem_cons.1 hmem with e | e
      · omega
      · obtain ⟨D, ho, _⟩ := HV.out.held B8 (by simpa using e)
        have := ho.lt
        omega
    clear hX8 hb8 nr
    obtain ⟨kk, hkk⟩ : ∃ kk, kk = e.k := ⟨_, rfl⟩
    rw [← hkk] at k0
    have HKK := hide hkk
    clear hkk
    go_upto_if 43 with fail
    go_cut [7] (fun s7 wx => s7 = .nilIface ∧ HasR wx B8 74 #[.int .i64 (T.q : Int), .string T.s, .int .i64 (T.g : Int), .string T.p, .string T.d] ∧ Keeps w1 wx vb mo sec (n + 1) (tellK σ e))
    case first =>
      by_cases hkx : kk = 3
      · have hk : e.k = 3 := by rw [← HKK.out]; exact hkx
        have TE : T = { newR rs e with d := tx } := by rw [HTT.out]; unfold tellR; rw [if_pos hk, hTx]
        have KE : tellK σ e = gone σ e.s.data.toList := by unfold tellK; rw [if_pos hk]
        have FK := hide (FO.out hk)
        clear FO SE HTT hk
        go_wp2
        go_region_with ((go_at_call 117; (with_reducible refine FK.out.mono ?_); rintro x w5 ⟨rfl, hk5⟩; have K5 := hide hk5; obtain ⟨m5, hp5, hm5, hs5⟩ := hk5; have X5 := hide (H8.out.drew.turned hs5 NIN.out); have s0 : w5.cell? ⟨B8, 0, none⟩ = some (.int .i64 ((rs.length : Int) + 1)) := X5.out.cell 0; have s1 : w5.cell? ⟨B8, 1, none⟩ = some (.string e.s) := X5.out.cell 1; have s2 : w5.cell? ⟨B8, 2, none⟩ = some (.int .i64 0) := X5.out.cell 2; have s3 : w5.cell? ⟨B8, 3, none⟩ = some (.string (headR rs)) := X5.out.cell 3; have s4 : w5.cell? ⟨B8, 4, none⟩ = some (.string ⟨#[]⟩) := X5.out.cell 4; have q0 : w5.frozen? ⟨B8, 0, none⟩ = false := X5.out.free 0; have q1 : w5.frozen? ⟨B8, 1, none⟩ = false := X5.out.free 1; have q2 : w5.frozen? ⟨B8, 2, none⟩ = false := X5.out.free 2; have q3 : w5.frozen? ⟨B8, 3, none⟩ = false := X5.out.free 3; have q4 : w5.frozen? ⟨B8, 4, none⟩ = false := X5.out.free 4; clear hp5 hm5 hs5))
        all_goals
          go_wp2
          go_meet
          exact ⟨rfl, by rw [TE]; exact HasR.five X5.out _ _ _ _ _, by rw [KE]; exact K5.out.wrap V1.out BB.out.drew (stir5 w5 B8 _ _ _ _ _) (fun j hj => by simp at hj; subst hj; exact ⟨hB8, hx8⟩)⟩
      · have hk : ¬ e.k = 3 := by rw [← HKK.out]; exact hkx
        have TE : T = sealR sec σ (newR rs e) tx := by rw [HTT.out]; unfold tellR; rw [if_neg hk, hTx]
        have KE : tellK σ e = made σ e.s.data.toList := by unfold tellK; rw [if_neg hk]
        have FK := hide SE.out
        clear FO SE HTT hk
        go_wp2
        go_region_with ((go_at_call 118; (with_reducible refine FK.out.mono ?_); rintro x w5 ⟨rfl, hk5⟩; have K5 := hide hk5; obtain ⟨m5, hp5, hm5, hs5⟩ := hk5; have X5 := hide (H8.out.drew.turned hs5 NIN.out); have s0 : w5.cell? ⟨B8, 0, none⟩ = some (.int .i64 ((rs.length : Int) + 1)) := X5.out.cell 0; have s1 : w5.cell? ⟨B8, 1, none⟩ = some (.string e.s) := X5.out.cell 1; have s2 : w5.cell? ⟨B8, 2, none⟩ = some (.int .i64 0) := X5.out.cell 2; have s3 : w5.cell? ⟨B8, 3, none⟩ = some (.string (headR rs)) := X5.out.cell 3; have s4 : w5.cell? ⟨B8, 4, none⟩ = some (.string ⟨#[]⟩) := X5.out.cell 4; have q0 : w5.frozen? ⟨B8, 0, none⟩ = false := X5.out.free 0; have q1 : w5.frozen? ⟨B8, 1, none⟩ = false := X5.out.free 1; have q2 : w5.frozen? ⟨B8, 2, none⟩ = false := X5.out.free 2; have q3 : w5.frozen? ⟨B8, 3, none⟩ = false := X5.out.free 3; have q4 : w5.frozen? ⟨B8, 4, none⟩ = false := X5.out.free 4; clear hp5 hm5 hs5))
        all_goals
          go_wp2
          go_meet
          exact ⟨rfl, by rw [TE]; exact HasR.five X5.out _ _ _ _ _, by rw [KE]; exact K5.out.wrap V1.out BB.out.drew (stir5 w5 B8 _ _ _ _ _) (fun j hj => by simp at hj; subst hj; exact ⟨hB8, hx8⟩)⟩
    case rest =>
      clear k0 v0 c0 c1 c2 c3 c4 o0 o1 o2 o3 o4 FO SE Vd Kd NIN H8 V8 F8 X38 X48 BB hw8 hx8
      obtain ⟨rfl, hT8, hKe⟩ := hcut
      obtain ⟨m, hpm, hm, hst⟩ := hKe
      obtain ⟨fr1, fr2⟩ := F1.out.free V1.out
      have F2 := hide (F1.out.turned hst fr1 (fun g hg hmem => fr2 g hg (List.mem_cons_of_mem _ hmem)))
      have n4 : w.heap.size + 1 ∉ vb :: mo.toList := fun hmem => by
        have h1 := HV.out.row.lt
        rcases List.mem_cons.1 hmem with e | e
        · omega
        · obtain ⟨D, ho, _⟩ := HV.out.held _ (by simpa using e)
          have := ho.lt
          omega
      have X42 := hide (X4.out.turned hst n4)
      have PM := hide hpm
      have ST := hide hst
      have HT8 := hide hT8
      have FR := hide (And.intro fr1 fr2)
      have f1 : wc.cell? ⟨fb, 1, none⟩ = some (.slice p rs.length c) := F2.out.row.cell 1
      have f2 : wc.frozen? ⟨fb, 1, none⟩ = false := F2.out.row.free 1
      have c0 : wc.cell? ⟨B8, 0, none⟩ = some (.int .i64 (T.q : Int)) := HT8.out.cell 0
      have c1 : wc.cell? ⟨B8, 1, none⟩ = some (.string T.s) := HT8.out.cell 1
      have c2 : wc.cell? ⟨B8, 2, none⟩ = some (.int .i64 (T.g : Int)) := HT8.out.cell 2
      have c3 : wc.cell? ⟨B8, 3, none⟩ = some (.string T.p) := HT8.out.cell 3
      have c4 : wc.cell? ⟨B8, 4, none⟩ = some (.string T.d) := HT8.out.cell 4
      have hfbw : fb < wc.heap.size := F2.out.row.lt
      have hN := news_blk (HasR.new wc 74 #[.int .i64 (T.q : Int), .string T.s, .int .i64 (T.g : Int), .string T.p, .string T.d])
      have HN := hide hN
      obtain ⟨i0, hi, hz0, hz1, hz2⟩ := info_parts info66
      clear hpm hst hT8 fr1 fr2 hN
      go_upto_region 14 with fail
      have hlN := F2.out.own
      go_region_law ((refine step_append_lies _ (by rfl) _ _ _ (by rfl) (fb + 1) 74 i0 _ 5 64 Tryz.underlying82 hi hz0 hz1 hz2 rfl (by omega) (.slice p rs.length c) rs.length (recsL rs) (by rfl) ((hlN.alloc _).drew) ⟨wc.heap.size, 0, none⟩ 1 1 (recL T) (by rfl) (by rfl) (World.news_of_block (cs := recA T) (t := 74) (fr := (0, 0)) (heap_alloc_new wc _)) (by simp [Value.oneCell', recL]) (by omega) (by unfold maxLen; omega) (by omega) (by simp; omega) (wc.heap.size + 1) (by simp) ?_; intro gg cp w6 hown6 hgrow hat hlt; have hnf : some fb ≠ (Value.slice p rs.length c).ownBlock := (fun e1 => FR.out.2 fb e1.symm (by simp)); have f6 : w6.cell? ⟨fb, 1, none⟩ = some (.slice p rs.length c) := ((hgrow.cell_far ⟨fb, 1, none⟩ (by simp; omega) hnf).trans (((Below.refl _ wc).alloc (Nat.le_refl _) _).drew.cell (p := ⟨fb, 1, none⟩) hfbw)).trans f1; have q6 : w6.frozen? ⟨fb, 1, none⟩ = false := ((hgrow.frozen_far ⟨fb, 1, none⟩ (by simp; omega) hnf).trans (World.frozen?_of_block (w := wc) (a := ⟨fb, 1, none⟩) (((Below.refl _ wc).alloc (Nat.le_refl _) _).drew.block fb hfbw))).trans f2; have HO6 := hide hown6; have HG6 := hide hgrow; have HAT := hide hat; clear hown6 hgrow hat hnf))
      all_goals
        obtain ⟨t7, F7, V7⟩ := tell_end F2.out PM.out ((Below.refl _ wc).alloc (Nat.le_refl _) _).drew HG6.out HO6.out
        have gl : ∀ g, (Value.slice p rs.length c).ownBlock = some g → g < w.heap.size := fun g hgo => (HF.out.own.lt g hgo).2
        have n8 : B8 ∉ fb :: (Value.slice p rs.length c).ownBlock.toList := fun hmem => by
          rcases List.mem_cons.1 hmem with e1 | e1
          · omega
          · have := gl B8 (by simpa using e1)
            omega
        have n9 : w.heap.size + 1 ∉ fb :: (Value.slice p rs.length c).ownBlock.toList := fun hmem => by
          rcases List.mem_cons.1 hmem with e1 | e1
          · omega
          · have := gl _ (by simpa using e1)
            omega
        have Y8 := HT8.out.turned t7 n8
        have Y4 := X42.out.turned t7 n9
        have Q7 := hide t7
        have QF := hide F7
        have QV := hide V7
        clear t7 F7 V7 f1 f2 c0 c1 c2 c3 c4 f6 q6 n8 n9
        generalize w6.setCell ⟨fb, 1, none⟩ (.slice (some ⟨gg, 0, none⟩) (rs.length + 1) cp) = w7 at Y8 Y4 Q7 QF QV ⊢
        have c0 : w7.cell? ⟨B8, 0, none⟩ = some (.int .i64 (T.q : Int)) := Y8.cell 0
        have c1 : w7.cell? ⟨B8, 1, none⟩ = some (.string T.s) := Y8.cell 1
        have c2 : w7.cell? ⟨B8, 2, none⟩ = some (.int .i64 (T.g : Int)) := Y8.cell 2
        have c3 : w7.cell? ⟨B8, 3, none⟩ = some (.string T.p) := Y8.cell 3
        have c4 : w7.cell? ⟨B8, 4, none⟩ = some (.string T.d) := Y8.cell 4
        have d0 : w7.cell? ⟨w.heap.size + 1, 0, none⟩ = some (.int .i64 0) := Y4.cell 0
        have d1 : w7.cell? ⟨w.heap.size + 1, 1, none⟩ = some (.string ⟨#[]⟩) := Y4.cell 1
        have d2 : w7.cell? ⟨w.heap.size + 1, 2, none⟩ = some (.int .i64 0) := Y4.cell 2
        have d3 : w7.cell? ⟨w.heap.size + 1, 3, none⟩ = some (.string ⟨#[]⟩) := Y4.cell 3
        have d4 : w7.cell? ⟨w.heap.size + 1, 4, none⟩ = some (.string ⟨#[]⟩) := Y4.cell 4
        have o0 : w7.frozen? ⟨w.heap.size + 1, 0, none⟩ = false := Y4.free 0
        have o1 : w7.frozen? ⟨w.heap.size + 1, 1, none⟩ = false := Y4.free 1
        have o2 : w7.frozen? ⟨w.heap.size + 1, 2, none⟩ = false := Y4.free 2
        have o3 : w7.frozen? ⟨w.heap.size + 1, 3, none⟩ = false := Y4.free 3
        have o4 : w7.frozen? ⟨w.heap.size + 1, 4, none⟩ = false := Y4.free 4
        have H4 := hide Y4
        clear Y4 Y8
        go_wp2
        have XF := HasR.five H4.out (.int .i64 (T.q : Int)) (.string T.s) (.int .i64 (T.g : Int)) (.string T.p) (.string T.d)
        have TF := stir5 w7 (w.heap.size + 1) (.int .i64 (T.q : Int)) (.string T.s) (.int .i64 (T.g : Int)) (.string T.p) (.string T.d)
        generalize ((((w7.setCell ⟨w.heap.size + 1, 0, none⟩ (.int .i64 (T.q : Int))).setCell ⟨w.heap.size + 1, 1, none⟩ (.string T.s)).setCell ⟨w.heap.size + 1, 2, none⟩ (.int .i64 (T.g : Int))).setCell ⟨w.heap.size + 1, 3, none⟩ (.string T.p)).setCell ⟨w.heap.size + 1, 4, none⟩ (.string T.d) = wf at XF TF ⊢
        have z0 : wf.cell? ⟨w.heap.size + 1, 0, none⟩ = some (.int .i64 (T.q : Int)) := XF.cell 0
        have z1 : wf.cell? ⟨w.heap.size + 1, 1, none⟩ = some (.string T.s) := XF.cell 1
        have z2 : wf.cell? ⟨w.heap.size + 1, 2, none⟩ = some (.int .i64 (T.g : Int)) := XF.cell 2
        have z3 : wf.cell? ⟨w.heap.size + 1, 3, none⟩ = some (.string T.p) := XF.cell 3
        have z4 : wf.cell? ⟨w.heap.size + 1, 4, none⟩ = some (.string T.d) := XF.cell 4
        have hw1 := B1.out.size
        have nv : vb ∉ [w.heap.size + 1] := by have := HV.out.row.lt; simp; omega
        have hmw : mo = some m ∨ (mo = none ∧ w.heap.size ≤ m) := by
          rcases hm with h | ⟨h, h'⟩
          · exact .inl h
          · exact .inr ⟨h, by omega⟩
        have nm : m ∉ [w.heap.size + 1] := by
          rcases hm with h | ⟨_, h'⟩
          · obtain ⟨D, ho, _⟩ := HV.out.held m h
            have := ho.lt
            simp; omega
          · have := X4.out.lt
            simp; omega
        refine bodyPost_ret (v := .tuple #[.agg #[.int .i64 (T.q : Int), .string T.s, .int .i64 (T.g : Int), .string T.p, .string T.d], .nilIface]) (by simp [results, Tryz.results78, go_sem, z0, z1, z2, z3, z4]) rfl ?_
        rw [← HTT.out]
        refine ⟨rfl, m, QV.out.turned TF nv (fun m' e1 => by cases e1; exact nm), hmw, (.slice (some ⟨gg, 0, none⟩) (rs.length + 1) cp), QF.out.turned TF (by simp; omega) (fun g hgo => ?_), ?_, ?_⟩
        · rcases HAT.out with h | h
          · have h1 : some gg = some g := hgo
            simp only [Option.some.injEq] at h1
            have := gl gg h
            simp; omega
          · have h1 : some gg = some g := hgo
            simp only [Option.some.injEq] at h1
            have := ST.out.size
            simp; omega
        · rcases HAT.out with h | h
          · exact .inl h.symm
          · refine .inr (fun g hgo => ?_)
            have h1 : some gg = some g := hgo
            simp only [Option.some.injEq] at h1
            have := ST.out.size
            omega
        · have sub1 : ∀ j ∈ vb :: mo.toList, j ∈ fb :: vb :: (mo.toList ++ (Value.slice p rs.length c).ownBlock.toList) := fun j hj => by
            rcases List.mem_cons.1 hj with e1 | e1 <;> simp [e1]
          have sub2 : ∀ j ∈ fb :: (Value.slice p rs.length c).ownBlock.toList, j ∈ fb :: vb :: (mo.toList ++ (Value.slice p rs.length c).ownBlock.toList) := fun j hj => by
            rcases List.mem_cons.1 hj with e1 | e1
            · simp [e1]
            · exact List.mem_cons_of_mem _ (List.mem_cons_of_mem _ (List.mem_append_right _ e1))
          have s1 : Stirred (fb :: vb :: (mo.toList ++ (Value.slice p rs.length c).ownBlock.toList)) w wc := (Stirred.of_below B1.out _).andThen ST.out (fun j hj => .inl (sub1 j hj))
          exact (s1.andThen Q7.out (fun j hj => .inl (sub2 j hj))).andThen TF (fun j hj => .inr (by simp at hj; omega))
end Go.Proofs.YtdjpghgnjcmdnaaGreatDoor

/- A feed is told what may not be, or a Gone of one that has no key. -/
namespace Go.Proofs.YtdjpghgnjcmdnaaGreatDoor
open Go.RowKit
attribute [local go_sem ↓] Go.wp_at_zero Go.wp_at_succ
set_option maxRecDepth 100000 in
set_option maxHeartbeats 2000000 in
theorem tell_bad (w : World) (fb : Nat) (e : Ev) (hr : rightB e = false) :
    Calls Tryz.prog 78 #[.pointer (some ⟨fb, 0, none⟩), .agg #[.int .i64 e.k, .string e.s, .string e.t, .string e.r, .string e.v]] w fun x w' => x = .returned (.tuple #[.agg #[.int .i64 0, .string ⟨#[]⟩, .int .i64 0, .string ⟨#[]⟩, .string ⟨#[]⟩], .iface 25 (.int .i64 1)]) ∧ Below w.heap.size w w' := by
  have bel : Below w.heap.size w ((w.alloc (.cells #[.int .i64 e.k, .string e.s, .string e.t, .string e.r, .string e.v] 69)).alloc (.cells rec0 74)) := ((Below.refl _ w).alloc (Nat.le_refl _) _).alloc (by simp) _
  have P := hide (print_bad e.k e.s e.t e.r e.v ((w.alloc (.cells #[.int .i64 e.k, .string e.s, .string e.t, .string e.r, .string e.v] 69)).alloc (.cells rec0 74)) hr)
  have E4 := hide (HasR.new (w.alloc (.cells #[.int .i64 e.k, .string e.s, .string e.t, .string e.r, .string e.v] 69)) 74 rec0)
  rw [World.size_alloc] at E4
  have hne := errNe
  have BL := hide bel
  clear bel
  unfold rec0 at P E4 BL
  go_enter Tryz.func78, Tryz.ntmps78
  go_upto_region 3 with (go_at_call 75; (with_reducible refine P.out.mono ?_); rintro x w1 ⟨rfl, hb1⟩; have B1 := hide (BL.out.trans (hb1.mono BL.out.size)); have X4 := hide (E4.out.below hb1 E4.out.lt); clear hb1)
  have d0 : w1.cell? ⟨w.heap.size + 1, 0, none⟩ = some (.int .i64 0) := X4.out.cell 0
  have d1 : w1.cell? ⟨w.heap.size + 1, 1, none⟩ = some (.string ⟨#[]⟩) := X4.out.cell 1
  have d2 : w1.cell? ⟨w.heap.size + 1, 2, none⟩ = some (.int .i64 0) := X4.out.cell 2
  have d3 : w1.cell? ⟨w.heap.size + 1, 3, none⟩ = some (.string ⟨#[]⟩) := X4.out.cell 3
  have d4 : w1.cell? ⟨w.heap.size + 1, 4, none⟩ = some (.string ⟨#[]⟩) := X4.out.cell 4
  have o0 : w1.frozen? ⟨w.heap.size + 1, 0, none⟩ = false := X4.out.free 0
  have o1 : w1.frozen? ⟨w.heap.size + 1, 1, none⟩ = false := X4.out.free 1
  have o2 : w1.frozen? ⟨w.heap.size + 1, 2, none⟩ = false := X4.out.free 2
  have o3 : w1.frozen? ⟨w.heap.size + 1, 3, none⟩ = false := X4.out.free 3
  have o4 : w1.frozen? ⟨w.heap.size + 1, 4, none⟩ = false := X4.out.free 4
  go_wp2
  have XF := HasR.five X4.out (.int .i64 0) (.string ⟨#[]⟩) (.int .i64 0) (.string ⟨#[]⟩) (.string ⟨#[]⟩)
  have TF := stir5 w1 (w.heap.size + 1) (.int .i64 0) (.string ⟨#[]⟩) (.int .i64 0) (.string ⟨#[]⟩) (.string ⟨#[]⟩)
  generalize ((((w1.setCell ⟨w.heap.size + 1, 0, none⟩ (.int .i64 0)).setCell ⟨w.heap.size + 1, 1, none⟩ (.string ⟨#[]⟩)).setCell ⟨w.heap.size + 1, 2, none⟩ (.int .i64 0)).setCell ⟨w.heap.size + 1, 3, none⟩ (.string ⟨#[]⟩)).setCell ⟨w.heap.size + 1, 4, none⟩ (.string ⟨#[]⟩) = wf at XF TF ⊢
  have z0 : wf.cell? ⟨w.heap.size + 1, 0, none⟩ = some (.int .i64 0) := XF.cell 0
  have z1 : wf.cell? ⟨w.heap.size + 1, 1, none⟩ = some (.string ⟨#[]⟩) := XF.cell 1
  have z2 : wf.cell? ⟨w.heap.size + 1, 2, none⟩ = some (.int .i64 0) := XF.cell 2
  have z3 : wf.cell? ⟨w.heap.size + 1, 3, none⟩ = some (.string ⟨#[]⟩) := XF.cell 3
  have z4 : wf.cell? ⟨w.heap.size + 1, 4, none⟩ = some (.string ⟨#[]⟩) := XF.cell 4
  refine bodyPost_ret (v := .tuple #[.agg #[.int .i64 0, .string ⟨#[]⟩, .int .i64 0, .string ⟨#[]⟩, .string ⟨#[]⟩], .iface 25 (.int .i64 1)]) (by simp [results, Tryz.results78, go_sem, z0, z1, z2, z3, z4]) rfl ⟨rfl, B1.out.trans (TF.below B1.out.size (fun j hj => by simp at hj; omega))⟩
set_option maxRecDepth 100000 in
set_option maxHeartbeats 4000000 in
theorem tell_none (w : World) (fb vb : Nat) (v : Value) (rs : List Rec) (mo : Option Nat) (sec : ByteArray) (n : Nat) (σ : Kept) (e : Ev) (hF : FeedV w fb vb v rs) (hV : ProgV w vb mo sec n σ) (hr : rightB e = true) (hk : e.k = 3) (hg : (σ e.s.data.toList).2 = false) (hfit : ∀ r ∈ rs, Fit r) (hlen : rs.length < 100) (hK : TabK w) (hL : TabL w) :
    Calls Tryz.prog 78 #[.pointer (some ⟨fb, 0, none⟩), .agg #[.int .i64 e.k, .string e.s, .string e.t, .string e.r, .string e.v]] w fun x w' => x = .returned (.tuple #[.agg #[.int .i64 0, .string ⟨#[]⟩, .int .i64 0, .string ⟨#[]⟩, .string ⟨#[]⟩], .iface 25 (.int .i64 8)]) ∧ Below w.heap.size w w' := by
  have hs60 := (subj_size hr).1
  have HK3 := hide hk
  clear hk
  have bel : Below w.heap.size w ((w.alloc (.cells #[.int .i64 e.k, .string e.s, .string e.t, .string e.r, .string e.v] 69)).alloc (.cells rec0 74)) := ((Below.refl _ w).alloc (Nat.le_refl _) _).alloc (by simp) _
  have P := hide (print_ok e.k e.s e.t e.r e.v ((w.alloc (.cells #[.int .i64 e.k, .string e.s, .string e.t, .string e.r, .string e.v] 69)).alloc (.cells rec0 74)) hr (hL.below bel hL.lt))
  rw [show (⟨e.k, e.s, e.t, e.r, e.v⟩ : Ev) = e from rfl] at P
  have E3 := hide ((HasR.new w 69 #[.int .i64 e.k, .string e.s, .string e.t, .string e.r, .string e.v]).alloc (.cells rec0 74))
  have E4 := hide (HasR.new (w.alloc (.cells #[.int .i64 e.k, .string e.s, .string e.t, .string e.r, .string e.v] 69)) 74 rec0)
  rw [World.size_alloc] at E4
  have hq := ptrF_nil fb
  have hne := nilNe
  obtain ⟨p, c, rfl⟩ := hF.slice
  have HF := hide hF
  have HV := hide hV
  have BL := hide bel
  have HFI := hide hfit
  have HK := hide hK
  have hfb := hF.row.lt
  have hl100 : ¬ (100 : Int) ≤ (rs.length : Int) := by omega
  generalize hTx : textB e = tx at P
  have hne2 := errNe
  clear hF hV bel hfit hL hK hTx
  unfold rec0 at P E3 E4 BL
  go_enter Tryz.func78, Tryz.ntmps78
  go_upto_region 8 with (go_at_call 75; (with_reducible refine P.out.mono ?_); rintro x w1 ⟨rfl, hb1⟩; have B1 := hide (BL.out.trans (hb1.mono BL.out.size)); have X3 := hide (E3.out.below hb1 E3.out.lt); have X4 := hide (E4.out.below hb1 E4.out.lt); have F1 := hide (HF.out.below (BL.out.trans (hb1.mono BL.out.size))); have f1 : w1.cell? ⟨fb, 1, none⟩ = some (.slice p rs.length c) := F1.out.row.cell 1; clear hb1)
  have y1 : w1.cell? ⟨w.heap.size, 1, none⟩ = some (.string e.s) := X3.out.cell 1
  have HKw := hide (fun wx (hb : Below w1.heap.size w1 wx) => HK.out.below (B1.out.trans (hb.mono B1.out.size)) HK.out.lt)
  have HD := hide (fun wx (hb : Below w1.heap.size w1 wx) => head_any wx fb vb _ rs (F1.out.below hb) HFI.out (by omega) (HKw.out wx hb))
  have hl1 := B1.out.size
  have hwr : IntKind.i64.wrap ((rs.length : Int) + 1) = (rs.length : Int) + 1 := by rw [IntKind.wrap_i64]; omega
  have hx3 := X3.out.lt
  have ne1 : w1.heap.size ≠ w.heap.size := by omega
  have ne2 : w1.heap.size ≠ fb := by omega
  have ne5 : w.heap.size ≠ w1.heap.size := by omega
  have ne6 : fb ≠ w1.heap.size := by omega
  go_cut [8] (fun s8 wx => ∃ B8 : Nat, s8 = .pointer (some ⟨B8, 0, none⟩) ∧ w1.heap.size ≤ B8 ∧ HasR wx B8 74 #[.int .i64 ((rs.length : Int) + 1), .string e.s, .int .i64 0, .string (headR rs), .string ⟨#[]⟩] ∧ Below w1.heap.size w1 wx)
  case first =>
    go_region_held3 (fun wx => wx.cell? ⟨w.heap.size, 1, none⟩ = some (.string e.s) ∧ wx.cell? ⟨fb, 1, none⟩ = some (.slice p rs.length c)) (first | (with_reducible exact K2.out) | go_keep)
      (first
      | (go_at_call 116; (with_reducible refine (HD.out _ (Below.refl _ w1).drew).mono ?_); rintro x w2 ⟨rfl, hb2⟩; have B2 := hide ((Below.refl w1.heap.size w1).drew.trans hb2); have y2 : w2.cell? ⟨w.heap.size, 1, none⟩ = some (.string e.s) := (B2.out.cell hx3).trans y1; have f2 : w2.cell? ⟨fb, 1, none⟩ = some (.slice p rs.length c) := (B2.out.cell (p := ⟨fb, 1, none⟩) (by show fb < _; omega)).trans f1; have K2 := hide (And.intro y2 f2); have hw2 := B2.out.size; have ne3 : w2.heap.size ≠ w.heap.size := (by omega); have ne4 : w2.heap.size ≠ fb := (by omega); have ne7 : w.heap.size ≠ w2.heap.size := (by omega); have ne8 : fb ≠ w2.heap.size := (by omega); clear hb2)
      | (go_at_call 116; (with_reducible refine (HD.out _ ((Below.refl _ w1).alloc (Nat.le_refl _) _).drew).mono ?_); rintro x w2 ⟨rfl, hb2⟩; have X8 := hide ((HasR.new w1 74 #[.int .i64 0, .string ⟨#[]⟩, .int .i64 0, .string ⟨#[]⟩, .string ⟨#[]⟩]).drew.below hb2 (HasR.new w1 74 _).drew.lt); have B2 := hide (((Below.refl w1.heap.size w1).alloc (Nat.le_refl _) (.cells #[.int .i64 0, .string ⟨#[]⟩, .int .i64 0, .string ⟨#[]⟩, .string ⟨#[]⟩] 74)).drew.trans (hb2.mono ((Below.refl w1.heap.size w1).alloc (Nat.le_refl _) (.cells #[.int .i64 0, .string ⟨#[]⟩, .int .i64 0, .string ⟨#[]⟩, .string ⟨#[]⟩] 74)).drew.size)); have y2 : w2.cell? ⟨w.heap.size, 1, none⟩ = some (.string e.s) := (B2.out.cell hx3).trans y1; have f2 : w2.cell? ⟨fb, 1, none⟩ = some (.slice p rs.length c) := (B2.out.cell (p := ⟨fb, 1, none⟩) (by show fb < _; omega)).trans f1; have z0 : w2.cell? ⟨w1.heap.size, 0, none⟩ = some (.int .i64 0) := X8.out.cell 0; have z1 : w2.cell? ⟨w1.heap.size, 1, none⟩ = some (.string ⟨#[]⟩) := X8.out.cell 1; have z2 : w2.cell? ⟨w1.heap.size, 2, none⟩ = some (.int .i64 0) := X8.out.cell 2; have z3 : w2.cell? ⟨w1.heap.size, 3, none⟩ = some (.string ⟨#[]⟩) := X8.out.cell 3; have z4 : w2.cell? ⟨w1.heap.size, 4, none⟩ = some (.string ⟨#[]⟩) := X8.out.cell 4; have o0 : w2.frozen? ⟨w1.heap.size, 0, none⟩ = false := X8.out.free 0; have o1 : w2.frozen? ⟨w1.heap.size, 1, none⟩ = false := X8.out.free 1; have o2 : w2.frozen? ⟨w1.heap.size, 2, none⟩ = false := X8.out.free 2; have o3 : w2.frozen? ⟨w1.heap.size, 3, none⟩ = false := X8.out.free 3; have o4 : w2.frozen? ⟨w1.heap.size, 4, none⟩ = false := X8.out.free 4; have K2 := hide (And.intro y2 f2); have hw2 := B2.out.size; have ne3 : w2.heap.size ≠ w.heap.size := (by omega); have ne4 : w2.heap.size ≠ fb := (by omega); have ne7 : w.heap.size ≠ w2.heap.size := (by omega); have ne8 : fb ≠ w2.heap.size := (by omega); clear hb2))
    all_goals
      go_wp2
      go_meet
      first
        | exact ⟨w1.heap.size, rfl, Nat.le_refl _, HasR.five X8.out _ _ _ _ _, B2.out.trans ((stir5 w2 w1.heap.size _ _ _ _ _).below B2.out.size (fun j hj => by simp at hj; omega))⟩
        | exact ⟨w2.heap.size, rfl, hw2, HasR.new w2 74 _, B2.out.alloc B2.out.size _⟩
  case rest =>
    clear y1 HD ne1 ne2 ne5 ne6 f1
    obtain ⟨B8, rfl, hB8, hX8, hb8⟩ := hcut
    have hw8 := hb8.size
    have hx8 := hX8.lt
    have V1 := hide (HV.out.below B1.out)
    have V8 := hide (V1.out.below hb8)
    have F8 := hide (F1.out.below hb8)
    have X38 := hide (X3.out.below hb8 X3.out.lt)
    have X48 := hide (X4.out.below hb8 X4.out.lt)
    have H8 := hide hX8
    have BB := hide hb8
    have k0 : wc.cell? ⟨w.heap.size, 0, none⟩ = some (.int .i64 3) := by rw [← HK3.out]; exact X38.out.cell 0
    have v0 : wc.cell? ⟨fb, 0, none⟩ = some (.pointer (some ⟨vb, 0, none⟩)) := F8.out.row.cell 0
    have c0 : wc.cell? ⟨B8, 0, none⟩ = some (.int .i64 ((rs.length : Int) + 1)) := H8.out.cell 0
    have c1 : wc.cell? ⟨B8, 1, none⟩ = some (.string e.s) := H8.out.cell 1
    have c2 : wc.cell? ⟨B8, 2, none⟩ = some (.int .i64 0) := H8.out.cell 2
    have c3 : wc.cell? ⟨B8, 3, none⟩ = some (.string (headR rs)) := H8.out.cell 3
    have c4 : wc.cell? ⟨B8, 4, none⟩ = some (.string ⟨#[]⟩) := H8.out.cell 4
    have o0 : wc.frozen? ⟨B8, 0, none⟩ = false := H8.out.free 0
    have o1 : wc.frozen? ⟨B8, 1, none⟩ = false := H8.out.free 1
    have o2 : wc.frozen? ⟨B8, 2, none⟩ = false := H8.out.free 2
    have o3 : wc.frozen? ⟨B8, 3, none⟩ = false := H8.out.free 3
    have o4 : wc.frozen? ⟨B8, 4, none⟩ = false := H8.out.free 4
    have Vd := hide (V8.out.below (Below.refl _ wc).drew)
    have Kd := hide (HKw.out _ hb8.drew)
    have nr := newR_fit (rs := rs) (e := e) hlen hs60
    have FO : Hid (Calls Tryz.prog 117 #[.pointer (some ⟨vb, 0, none⟩), .agg #[.int .i64 ((rs.length : Int) + 1), .string e.s, .int .i64 0, .string (headR rs), .string ⟨#[]⟩], .string tx] wc.drew fun x w' => x = .returned (.tuple #[.agg #[.int .i64 0, .string ⟨#[]⟩, .int .i64 0, .string ⟨#[]⟩, .string ⟨#[]⟩], .iface 25 (.int .i64 8)]) ∧ Below wc.drew.heap.size wc.drew w') := forgetF_none vb mo sec n σ (newR rs e) tx wc.drew hs60 Vd.out hg
    clear hX8 hb8 nr
    go_upto_region 10 with fail
    go_region_with ((go_at_call 117; (with_reducible refine FO.out.mono ?_); rintro x w5 ⟨rfl, hb5⟩; have B5 := hide (BB.out.drew.trans (hb5.mono BB.out.drew.size)); have X5 := hide (H8.out.drew.below hb5 H8.out.drew.lt); have X45 := hide (X48.out.drew.below hb5 X48.out.drew.lt); have s0 : w5.cell? ⟨B8, 0, none⟩ = some (.int .i64 ((rs.length : Int) + 1)) := X5.out.cell 0; have s1 : w5.cell? ⟨B8, 1, none⟩ = some (.string e.s) := X5.out.cell 1; have s2 : w5.cell? ⟨B8, 2, none⟩ = some (.int .i64 0) := X5.out.cell 2; have s3 : w5.cell? ⟨B8, 3, none⟩ = some (.string (headR rs)) := X5.out.cell 3; have s4 : w5.cell? ⟨B8, 4, none⟩ = some (.string ⟨#[]⟩) := X5.out.cell 4; have q0 : w5.frozen? ⟨B8, 0, none⟩ = false := X5.out.free 0; have q1 : w5.frozen? ⟨B8, 1, none⟩ = false := X5.out.free 1; have q2 : w5.frozen? ⟨B8, 2, none⟩ = false := X5.out.free 2; have q3 : w5.frozen? ⟨B8, 3, none⟩ = false := X5.out.free 3; have q4 : w5.frozen? ⟨B8, 4, none⟩ = false := X5.out.free 4; clear hb5))
    all_goals
      have hx4 := X4.out.lt
      go_upto_region 13 with fail
      have T5 := stir5 w5 B8 (.int .i64 0) (.string ⟨#[]⟩) (.int .i64 0) (.string ⟨#[]⟩) (.string ⟨#[]⟩)
      have X46 := hide (X45.out.turned T5 (by simp; omega))
      have B6 := hide (B5.out.trans (T5.below B5.out.size (fun j hj => by simp at hj; omega)))
      clear T5 s0 s1 s2 s3 s4 q0 q1 q2 q3 q4
      generalize ((((w5.setCell ⟨B8, 0, none⟩ (.int .i64 0)).setCell ⟨B8, 1, none⟩ (.string ⟨#[]⟩)).setCell ⟨B8, 2, none⟩ (.int .i64 0)).setCell ⟨B8, 3, none⟩ (.string ⟨#[]⟩)).setCell ⟨B8, 4, none⟩ (.string ⟨#[]⟩) = w6 at X46 B6 ⊢
      have B7 := B1.out.trans (B6.out.mono B1.out.size)
      have d0 : w6.cell? ⟨w.heap.size + 1, 0, none⟩ = some (.int .i64 0) := X46.out.cell 0
      have d1 : w6.cell? ⟨w.heap.size + 1, 1, none⟩ = some (.string ⟨#[]⟩) := X46.out.cell 1
      have d2 : w6.cell? ⟨w.heap.size + 1, 2, none⟩ = some (.int .i64 0) := X46.out.cell 2
      have d3 : w6.cell? ⟨w.heap.size + 1, 3, none⟩ = some (.string ⟨#[]⟩) := X46.out.cell 3
      have d4 : w6.cell? ⟨w.heap.size + 1, 4, none⟩ = some (.string ⟨#[]⟩) := X46.out.cell 4
      have o0 : w6.frozen? ⟨w.heap.size + 1, 0, none⟩ = false := X46.out.free 0
      have o1 : w6.frozen? ⟨w.heap.size + 1, 1, none⟩ = false := X46.out.free 1
      have o2 : w6.frozen? ⟨w.heap.size + 1, 2, none⟩ = false := X46.out.free 2
      have o3 : w6.frozen? ⟨w.heap.size + 1, 3, none⟩ = false := X46.out.free 3
      have o4 : w6.frozen? ⟨w.heap.size + 1, 4, none⟩ = false := X46.out.free 4
      go_wp2
      have XF := HasR.five X46.out (.int .i64 0) (.string ⟨#[]⟩) (.int .i64 0) (.string ⟨#[]⟩) (.string ⟨#[]⟩)
      have TF := stir5 w6 (w.heap.size + 1) (.int .i64 0) (.string ⟨#[]⟩) (.int .i64 0) (.string ⟨#[]⟩) (.string ⟨#[]⟩)
      generalize ((((w6.setCell ⟨w.heap.size + 1, 0, none⟩ (.int .i64 0)).setCell ⟨w.heap.size + 1, 1, none⟩ (.string ⟨#[]⟩)).setCell ⟨w.heap.size + 1, 2, none⟩ (.int .i64 0)).setCell ⟨w.heap.size + 1, 3, none⟩ (.string ⟨#[]⟩)).setCell ⟨w.heap.size + 1, 4, none⟩ (.string ⟨#[]⟩) = wf at XF TF ⊢
      have z0 : wf.cell? ⟨w.heap.size + 1, 0, none⟩ = some (.int .i64 0) := XF.cell 0
      have z1 : wf.cell? ⟨w.heap.size + 1, 1, none⟩ = some (.string ⟨#[]⟩) := XF.cell 1
      have z2 : wf.cell? ⟨w.heap.size + 1, 2, none⟩ = some (.int .i64 0) := XF.cell 2
      have z3 : wf.cell? ⟨w.heap.size + 1, 3, none⟩ = some (.string ⟨#[]⟩) := XF.cell 3
      have z4 : wf.cell? ⟨w.heap.size + 1, 4, none⟩ = some (.string ⟨#[]⟩) := XF.cell 4
      refine bodyPost_ret (v := .tuple #[.agg #[.int .i64 0, .string ⟨#[]⟩, .int .i64 0, .string ⟨#[]⟩, .string ⟨#[]⟩], .iface 25 (.int .i64 8)]) (by simp [results, Tryz.results78, go_sem, z0, z1, z2, z3, z4]) rfl ⟨rfl, B7.trans (TF.below B7.size (fun j hj => by simp at hj; omega))⟩
end Go.Proofs.YtdjpghgnjcmdnaaGreatDoor

/- What does not happen at a source: nothing is changed. -/
namespace Go.Proofs.YtdjpghgnjcmdnaaGreatDoor
open Go.RowKit
attribute [local go_sem ↓] Go.wp_at_zero Go.wp_at_succ
theorem ptrS_nil (b : Nat) (w : World) : (binOp .eql 28 (.pointer (some ⟨b, 0, none⟩)) (.pointer none)).run Tryz.prog w = .ok (.bool false) w := by kernel_rfl
theorem errV_no {n : Int} (h : n ≠ 0) : errV n = .iface 25 (.int .i64 n) := if_neg h
theorem errV_yes : errV 0 = .nilIface := if_pos rfl
set_option maxRecDepth 100000 in
set_option maxHeartbeats 2000000 in
theorem do_refused (sb : Nat) (p0 p1 : Value) (mt : Option Nat) (n : Nat) (τ : Tab) (e : Ev) (w : World) (he : Brief e) (hV : TabV w sb 112 #[p0, p1] mt n τ) (hr : refuseB τ e ≠ 0) :
    Calls Tryz.prog 43 #[.pointer (some ⟨sb, 0, none⟩), .agg #[.int .i64 e.k, .string e.s, .string e.t, .string e.r, .string e.v]] w fun x w' => x = .returned (.tuple #[.agg #[.int .i64 0, .string ⟨#[]⟩, .int .i64 0, .string ⟨#[]⟩, .string ⟨#[]⟩], .iface 25 (.int .i64 (refuseB τ e))]) ∧ Below w.heap.size w w' := by
  have bel : Below w.heap.size w ((w.alloc (.cells #[.int .i64 e.k, .string e.s, .string e.t, .string e.r, .string e.v] 69)).alloc (.cells #[.int .i64 0, .string ⟨#[]⟩, .int .i64 0, .string ⟨#[]⟩, .string ⟨#[]⟩] 74)) := ((Below.refl _ w).alloc (Nat.le_refl _) _).alloc (by simp) _
  have U := hide (refuse_any sb p0 p1 mt n τ e _ he (hV.below bel))
  rw [errV_no hr] at U
  have E4 := hide (HasR.new (w.alloc (.cells #[.int .i64 e.k, .string e.s, .string e.t, .string e.r, .string e.v] 69)) 74 #[.int .i64 0, .string ⟨#[]⟩, .int .i64 0, .string ⟨#[]⟩, .string ⟨#[]⟩])
  rw [World.size_alloc] at E4
  have hq := ptrS_nil sb
  have hne := errNe
  have BL := hide bel
  generalize refuseB τ e = R at U ⊢
  clear bel hV hr
  go_enter Tryz.func43, Tryz.ntmps43
  go_upto_region 5 with (go_at_call 77; (with_reducible refine U.out.mono ?_); rintro x w1 ⟨rfl, hb1⟩; have B1 := hide (BL.out.trans (hb1.mono BL.out.size)); have X4 := hide (E4.out.below hb1 E4.out.lt); clear hb1)
  have d0 : w1.cell? ⟨w.heap.size + 1, 0, none⟩ = some (.int .i64 0) := X4.out.cell 0
  have d1 : w1.cell? ⟨w.heap.size + 1, 1, none⟩ = some (.string ⟨#[]⟩) := X4.out.cell 1
  have d2 : w1.cell? ⟨w.heap.size + 1, 2, none⟩ = some (.int .i64 0) := X4.out.cell 2
  have d3 : w1.cell? ⟨w.heap.size + 1, 3, none⟩ = some (.string ⟨#[]⟩) := X4.out.cell 3
  have d4 : w1.cell? ⟨w.heap.size + 1, 4, none⟩ = some (.string ⟨#[]⟩) := X4.out.cell 4
  have o0 : w1.frozen? ⟨w.heap.size + 1, 0, none⟩ = false := X4.out.free 0
  have o1 : w1.frozen? ⟨w.heap.size + 1, 1, none⟩ = false := X4.out.free 1
  have o2 : w1.frozen? ⟨w.heap.size + 1, 2, none⟩ = false := X4.out.free 2
  have o3 : w1.frozen? ⟨w.heap.size + 1, 3, none⟩ = false := X4.out.free 3
  have o4 : w1.frozen? ⟨w.heap.size + 1, 4, none⟩ = false := X4.out.free 4
  go_wp2
  have XF := HasR.five X4.out (.int .i64 0) (.string ⟨#[]⟩) (.int .i64 0) (.string ⟨#[]⟩) (.string ⟨#[]⟩)
  have TF := stir5 w1 (w.heap.size + 1) (.int .i64 0) (.string ⟨#[]⟩) (.int .i64 0) (.string ⟨#[]⟩) (.string ⟨#[]⟩)
  generalize ((((w1.setCell ⟨w.heap.size + 1, 0, none⟩ (.int .i64 0)).setCell ⟨w.heap.size + 1, 1, none⟩ (.string ⟨#[]⟩)).setCell ⟨w.heap.size + 1, 2, none⟩ (.int .i64 0)).setCell ⟨w.heap.size + 1, 3, none⟩ (.string ⟨#[]⟩)).setCell ⟨w.heap.size + 1, 4, none⟩ (.string ⟨#[]⟩) = wf at XF TF ⊢
  have z0 : wf.cell? ⟨w.heap.size + 1, 0, none⟩ = some (.int .i64 0) := XF.cell 0
  have z1 : wf.cell? ⟨w.heap.size + 1, 1, none⟩ = some (.string ⟨#[]⟩) := XF.cell 1
  have z2 : wf.cell? ⟨w.heap.size + 1, 2, none⟩ = some (.int .i64 0) := XF.cell 2
  have z3 : wf.cell? ⟨w.heap.size + 1, 3, none⟩ = some (.string ⟨#[]⟩) := XF.cell 3
  have z4 : wf.cell? ⟨w.heap.size + 1, 4, none⟩ = some (.string ⟨#[]⟩) := XF.cell 4
  refine bodyPost_ret (v := .tuple #[.agg #[.int .i64 0, .string ⟨#[]⟩, .int .i64 0, .string ⟨#[]⟩, .string ⟨#[]⟩], .iface 25 (.int .i64 R)]) (by simp [results, Tryz.results43, go_sem, z0, z1, z2, z3, z4]) rfl ⟨rfl, B1.out.trans (TF.below B1.out.size (fun j hj => by simp at hj; omega))⟩
set_option maxRecDepth 100000 in
set_option maxHeartbeats 4000000 in
theorem do_untold (sb fb : Nat) (p0 : Value) (mt : Option Nat) (n : Nat) (τ : Tab) (e : Ev) (k : Int) (w : World) (he : Brief e) (hV : TabV w sb 112 #[p0, .pointer (some ⟨fb, 0, none⟩)] mt n τ) (hr : refuseB τ e = 0)
    (hT : ∀ wx, Below w.heap.size w wx → Calls Tryz.prog 78 #[.pointer (some ⟨fb, 0, none⟩), .agg #[.int .i64 e.k, .string e.s, .string e.t, .string e.r, .string e.v]] wx fun x w' => x = .returned (.tuple #[.agg #[.int .i64 0, .string ⟨#[]⟩, .int .i64 0, .string ⟨#[]⟩, .string ⟨#[]⟩], .iface 25 (.int .i64 k)]) ∧ Below wx.heap.size wx w') :
    Calls Tryz.prog 43 #[.pointer (some ⟨sb, 0, none⟩), .agg #[.int .i64 e.k, .string e.s, .string e.t, .string e.r, .string e.v]] w fun x w' => x = .returned (.tuple #[.agg #[.int .i64 0, .string ⟨#[]⟩, .int .i64 0, .string ⟨#[]⟩, .string ⟨#[]⟩], .iface 25 (.int .i64 k)]) ∧ Below w.heap.size w w' := by
  have bel : Below w.heap.size w ((w.alloc (.cells #[.int .i64 e.k, .string e.s, .string e.t, .string e.r, .string e.v] 69)).alloc (.cells #[.int .i64 0, .string ⟨#[]⟩, .int .i64 0, .string ⟨#[]⟩, .string ⟨#[]⟩] 74)) := ((Below.refl _ w).alloc (Nat.le_refl _) _).alloc (by simp) _
  have U := hide (refuse_any sb p0 _ mt n τ e _ he (hV.below bel))
  rw [hr, errV_yes] at U
  have E3 := hide ((HasR.new w 69 #[.int .i64 e.k, .string e.s, .string e.t, .string e.r, .string e.v]).alloc (.cells #[.int .i64 0, .string ⟨#[]⟩, .int .i64 0, .string ⟨#[]⟩, .string ⟨#[]⟩] 74))
  have E4 := hide (HasR.new (w.alloc (.cells #[.int .i64 e.k, .string e.s, .string e.t, .string e.r, .string e.v] 69)) 74 #[.int .i64 0, .string ⟨#[]⟩, .int .i64 0, .string ⟨#[]⟩, .string ⟨#[]⟩])
  rw [World.size_alloc] at E4
  have hq := ptrS_nil sb
  have hne := errNe
  have hne2 := nilNe
  have BL := hide bel
  have HT := hide hT
  have RW := hide hV.row
  have hsb := hV.row.lt
  clear bel hV hr hT
  go_enter Tryz.func43, Tryz.ntmps43
  go_upto_region 6 with (go_at_call 77; (with_reducible refine U.out.mono ?_); rintro x w1 ⟨rfl, hb1⟩; have B1 := hide (BL.out.trans (hb1.mono BL.out.size)); have X3 := hide (E3.out.below hb1 E3.out.lt); have X4 := hide (E4.out.below hb1 E4.out.lt); clear hb1)
  have R1 := hide (RW.out.below B1.out hsb)
  have f1 : w1.cell? ⟨sb, 1, none⟩ = some (.pointer (some ⟨fb, 0, none⟩)) := R1.out.cell 1
  have y0 : w1.cell? ⟨w.heap.size, 0, none⟩ = some (.int .i64 e.k) := X3.out.cell 0
  have y1 : w1.cell? ⟨w.heap.size, 1, none⟩ = some (.string e.s) := X3.out.cell 1
  have y2 : w1.cell? ⟨w.heap.size, 2, none⟩ = some (.string e.t) := X3.out.cell 2
  have y3 : w1.cell? ⟨w.heap.size, 3, none⟩ = some (.string e.r) := X3.out.cell 3
  have y4 : w1.cell? ⟨w.heap.size, 4, none⟩ = some (.string e.v) := X3.out.cell 4
  have hl1 := B1.out.size
  have hx3 := X3.out.lt
  have hx4 := X4.out.lt
  have ne1 : w1.heap.size ≠ w.heap.size := by omega
  have ne2 : w.heap.size ≠ w1.heap.size := by omega
  have ne5 : w1.heap.size ≠ sb := by omega
  have ne6 : sb ≠ w1.heap.size := by omega
  go_cut [8] (fun s8 wx => s8 = .iface 25 (.int .i64 k) ∧ HasR wx (w.heap.size + 1) 74 #[.int .i64 0, .string ⟨#[]⟩, .int .i64 0, .string ⟨#[]⟩, .string ⟨#[]⟩] ∧ Below w.heap.size w wx)
  case first =>
    go_region_held3 (fun wx => wx.cell? ⟨sb, 1, none⟩ = some (.pointer (some ⟨fb, 0, none⟩)) ∧ wx.cell? ⟨w.heap.size, 0, none⟩ = some (.int .i64 e.k) ∧ wx.cell? ⟨w.heap.size, 1, none⟩ = some (.string e.s) ∧ wx.cell? ⟨w.heap.size, 2, none⟩ = some (.string e.t) ∧ wx.cell? ⟨w.heap.size, 3, none⟩ = some (.string e.r) ∧ wx.cell? ⟨w.heap.size, 4, none⟩ = some (.string e.v)) (first | (with_reducible exact K2.out) | go_keep)
      (first
      | (go_at_call 78; (with_reducible refine (HT.out _ B1.out.drew).mono ?_); rintro x w2 ⟨rfl, hb2⟩; have B2 := hide (B1.out.drew.trans (hb2.mono B1.out.drew.size)); have H3 := hide (X3.out.drew.below hb2 X3.out.drew.lt); have H4 := hide (X4.out.drew.below hb2 X4.out.drew.lt); have HS := hide (R1.out.drew.below hb2 R1.out.drew.lt); have g1 : w2.cell? ⟨sb, 1, none⟩ = some (.pointer (some ⟨fb, 0, none⟩)) := HS.out.cell 1; have k0 : w2.cell? ⟨w.heap.size, 0, none⟩ = some (.int .i64 e.k) := H3.out.cell 0; have k1 : w2.cell? ⟨w.heap.size, 1, none⟩ = some (.string e.s) := H3.out.cell 1; have k2 : w2.cell? ⟨w.heap.size, 2, none⟩ = some (.string e.t) := H3.out.cell 2; have k3 : w2.cell? ⟨w.heap.size, 3, none⟩ = some (.string e.r) := H3.out.cell 3; have k4 : w2.cell? ⟨w.heap.size, 4, none⟩ = some (.string e.v) := H3.out.cell 4; have K2 := hide (And.intro g1 (And.intro k0 (And.intro k1 (And.intro k2 (And.intro k3 k4))))); have lt2 := H4.out.lt; have lt3 := HS.out.lt; have ne3 : w2.heap.size ≠ w.heap.size := (by omega); have ne4 : w.heap.size ≠ w2.heap.size := (by omega); have ne7 : w2.heap.size ≠ sb := (by omega); have ne8 : sb ≠ w2.heap.size := (by omega); clear hb2)
      | (go_at_call 78; (with_reducible refine (HT.out _ (B1.out.alloc B1.out.size _).drew).mono ?_); rintro x w2 ⟨rfl, hb2⟩; have X7 := hide ((HasR.new w1 74 #[.int .i64 0, .string ⟨#[]⟩, .int .i64 0, .string ⟨#[]⟩, .string ⟨#[]⟩]).drew.below hb2 (HasR.new w1 74 _).drew.lt); have B2 := hide ((B1.out.alloc B1.out.size (.cells #[.int .i64 0, .string ⟨#[]⟩, .int .i64 0, .string ⟨#[]⟩, .string ⟨#[]⟩] 74)).drew.trans (hb2.mono (B1.out.alloc B1.out.size (.cells #[.int .i64 0, .string ⟨#[]⟩, .int .i64 0, .string ⟨#[]⟩, .string ⟨#[]⟩] 74)).drew.size)); have H3 := hide ((X3.out.alloc (.cells #[.int .i64 0, .string ⟨#[]⟩, .int .i64 0, .string ⟨#[]⟩, .string ⟨#[]⟩] 74)).drew.below hb2 (X3.out.alloc (.cells #[.int .i64 0, .string ⟨#[]⟩, .int .i64 0, .string ⟨#[]⟩, .string ⟨#[]⟩] 74)).drew.lt); have H4 := hide ((X4.out.alloc (.cells #[.int .i64 0, .string ⟨#[]⟩, .int .i64 0, .string ⟨#[]⟩, .string ⟨#[]⟩] 74)).drew.below hb2 (X4.out.alloc (.cells #[.int .i64 0, .string ⟨#[]⟩, .int .i64 0, .string ⟨#[]⟩, .string ⟨#[]⟩] 74)).drew.lt); have HS := hide ((R1.out.alloc (.cells #[.int .i64 0, .string ⟨#[]⟩, .int .i64 0, .string ⟨#[]⟩, .string ⟨#[]⟩] 74)).drew.below hb2 (R1.out.alloc (.cells #[.int .i64 0, .string ⟨#[]⟩, .int .i64 0, .string ⟨#[]⟩, .string ⟨#[]⟩] 74)).drew.lt); have g1 : w2.cell? ⟨sb, 1, none⟩ = some (.pointer (some ⟨fb, 0, none⟩)) := HS.out.cell 1; have k0 : w2.cell? ⟨w.heap.size, 0, none⟩ = some (.int .i64 e.k) := H3.out.cell 0; have k1 : w2.cell? ⟨w.heap.size, 1, none⟩ = some (.string e.s) := H3.out.cell 1; have k2 : w2.cell? ⟨w.heap.size, 2, none⟩ = some (.string e.t) := H3.out.cell 2; have k3 : w2.cell? ⟨w.heap.size, 3, none⟩ = some (.string e.r) := H3.out.cell 3; have k4 : w2.cell? ⟨w.heap.size, 4, none⟩ = some (.string e.v) := H3.out.cell 4; have K2 := hide (And.intro g1 (And.intro k0 (And.intro k1 (And.intro k2 (And.intro k3 k4))))); have lt2 := H4.out.lt; have lt3 := HS.out.lt; have ne3 : w2.heap.size ≠ w.heap.size := (by omega); have ne4 : w.heap.size ≠ w2.heap.size := (by omega); have ne7 : w2.heap.size ≠ sb := (by omega); have ne8 : sb ≠ w2.heap.size := (by omega); have z0 : w2.cell? ⟨w1.heap.size, 0, none⟩ = some (.int .i64 0) := X7.out.cell 0; have z1 : w2.cell? ⟨w1.heap.size, 1, none⟩ = some (.string ⟨#[]⟩) := X7.out.cell 1; have z2 : w2.cell? ⟨w1.heap.size, 2, none⟩ = some (.int .i64 0) := X7.out.cell 2; have z3 : w2.cell? ⟨w1.heap.size, 3, none⟩ = some (.string ⟨#[]⟩) := X7.out.cell 3; have z4 : w2.cell? ⟨w1.heap.size, 4, none⟩ = some (.string ⟨#[]⟩) := X7.out.cell 4; have o0 : w2.frozen? ⟨w1.heap.size, 0, none⟩ = false := X7.out.free 0; have o1 : w2.frozen? ⟨w1.heap.size, 1, none⟩ = false := X7.out.free 1; have o2 : w2.frozen? ⟨w1.heap.size, 2, none⟩ = false := X7.out.free 2; have o3 : w2.frozen? ⟨w1.heap.size, 3, none⟩ = false := X7.out.free 3; have o4 : w2.frozen? ⟨w1.heap.size, 4, none⟩ = false := X7.out.free 4; clear hb2))
    all_goals
      go_wp2
      go_meet
      first
        | exact ⟨rfl, H4.out.turned (stir5 w2 w1.heap.size _ _ _ _ _) (by simp; omega), B2.out.trans ((stir5 w2 w1.heap.size _ _ _ _ _).below B2.out.size (fun j hj => by simp at hj; omega))⟩
        | exact ⟨rfl, H4.out.alloc _, B2.out.alloc B2.out.size _⟩
  case rest =>
    clear f1 y0 y1 y2 y3 y4
    obtain ⟨rfl, hX, hB⟩ := hcut
    have X42 := hide hX
    have BB := hide hB
    clear hX hB
    go_upto_region 8 with fail
    have d0 : wc.cell? ⟨w.heap.size + 1, 0, none⟩ = some (.int .i64 0) := X42.out.cell 0
    have d1 : wc.cell? ⟨w.heap.size + 1, 1, none⟩ = some (.string ⟨#[]⟩) := X42.out.cell 1
    have d2 : wc.cell? ⟨w.heap.size + 1, 2, none⟩ = some (.int .i64 0) := X42.out.cell 2
    have d3 : wc.cell? ⟨w.heap.size + 1, 3, none⟩ = some (.string ⟨#[]⟩) := X42.out.cell 3
    have d4 : wc.cell? ⟨w.heap.size + 1, 4, none⟩ = some (.string ⟨#[]⟩) := X42.out.cell 4
    have o0 : wc.frozen? ⟨w.heap.size + 1, 0, none⟩ = false := X42.out.free 0
    have o1 : wc.frozen? ⟨w.heap.size + 1, 1, none⟩ = false := X42.out.free 1
    have o2 : wc.frozen? ⟨w.heap.size + 1, 2, none⟩ = false := X42.out.free 2
    have o3 : wc.frozen? ⟨w.heap.size + 1, 3, none⟩ = false := X42.out.free 3
    have o4 : wc.frozen? ⟨w.heap.size + 1, 4, none⟩ = false := X42.out.free 4
    go_wp2
    have XF := HasR.five X42.out (.int .i64 0) (.string ⟨#[]⟩) (.int .i64 0) (.string ⟨#[]⟩) (.string ⟨#[]⟩)
    have TF := stir5 wc (w.heap.size + 1) (.int .i64 0) (.string ⟨#[]⟩) (.int .i64 0) (.string ⟨#[]⟩) (.string ⟨#[]⟩)
    generalize ((((wc.setCell ⟨w.heap.size + 1, 0, none⟩ (.int .i64 0)).setCell ⟨w.heap.size + 1, 1, none⟩ (.string ⟨#[]⟩)).setCell ⟨w.heap.size + 1, 2, none⟩ (.int .i64 0)).setCell ⟨w.heap.size + 1, 3, none⟩ (.string ⟨#[]⟩)).setCell ⟨w.heap.size + 1, 4, none⟩ (.string ⟨#[]⟩) = wf at XF TF ⊢
    have z0 : wf.cell? ⟨w.heap.size + 1, 0, none⟩ = some (.int .i64 0) := XF.cell 0
    have z1 : wf.cell? ⟨w.heap.size + 1, 1, none⟩ = some (.string ⟨#[]⟩) := XF.cell 1
    have z2 : wf.cell? ⟨w.heap.size + 1, 2, none⟩ = some (.int .i64 0) := XF.cell 2
    have z3 : wf.cell? ⟨w.heap.size + 1, 3, none⟩ = some (.string ⟨#[]⟩) := XF.cell 3
    have z4 : wf.cell? ⟨w.heap.size + 1, 4, none⟩ = some (.string ⟨#[]⟩) := XF.cell 4
    refine bodyPost_ret (v := .tuple #[.agg #[.int .i64 0, .string ⟨#[]⟩, .int .i64 0, .string ⟨#[]⟩, .string ⟨#[]⟩], .iface 25 (.int .i64 k)]) (by simp [results, Tryz.results43, go_sem, z0, z1, z2, z3, z4]) rfl ⟨rfl, BB.out.trans (TF.below BB.out.size (fun j hj => by simp at hj; omega))⟩
end Go.Proofs.YtdjpghgnjcmdnaaGreatDoor

/- A source as it lies in memory: its table, its feed, its vault; what each turn leaves of it. -/
namespace Go.Proofs.YtdjpghgnjcmdnaaGreatDoor
open Go.RowKit
def srcA (vb fb : Nat) : Array Value := #[.pointer (some ⟨vb, 0, none⟩), .pointer (some ⟨fb, 0, none⟩)]
/-- All that is a source's own lies in blocks from B on. -/
structure Src (B : Nat) (w : World) (sb fb vb : Nat) (mt mv : Option Nat) (v : Value) (nt nv : Nat) (sec : ByteArray) (σ : Kept) (τ : Tab) (rs : List Rec) : Prop where
  tab : TabV w sb 112 #[.pointer (some ⟨vb, 0, none⟩), .pointer (some ⟨fb, 0, none⟩)] mt nt τ
  feed : FeedV w fb vb v rs
  keys : ProgV w vb mv sec nv σ
  few : ∀ l, (σ l).1 ≤ nv
  apart : ∀ m m', mt = some m → mv = some m' → m ≠ m'
  fit : ∀ r ∈ rs, Fit r
  base : B ≤ w.heap.size
  lowS : B ≤ sb
  lowF : B ≤ fb
  lowV : B ≤ vb
  lowT : ∀ m, mt = some m → B ≤ m
  lowM : ∀ m, mv = some m → B ≤ m
  lowG : ∀ g, v.ownBlock = some g → B ≤ g
theorem Src.still {B : Nat} {w w' : World} {sb fb vb : Nat} {mt mv : Option Nat} {v : Value} {nt nv : Nat} {sec : ByteArray} {σ : Kept} {τ : Tab} {rs : List Rec} (h : Src B w sb fb vb mt mv v nt nv sec σ τ rs) (k : Below w.heap.size w w') : Src B w' sb fb vb mt mv v nt nv sec σ τ rs :=
  ⟨h.tab.below k, h.feed.below k, h.keys.below k, h.few, h.apart, h.fit, Nat.le_trans h.base k.size, h.lowS, h.lowF, h.lowV, h.lowT, h.lowM, h.lowG⟩
/-- The row of records, as a block. -/
theorem FeedV.block {w : World} {fb vb : Nat} {v : Value} {rs : List Rec} (h : FeedV w fb vb v rs) {g : Nat} (hg : v.ownBlock = some g) : ∃ cur, HasR w g 74 cur := by
  rcases h.own.2 with ⟨e, _⟩ | ⟨g', cap, cur, e, hb, hh, _⟩
  · rw [e] at hg; cases hg
  · rw [e] at hg
    have hg1 : some g' = some g := hg
    simp only [Option.some.injEq] at hg1
    subst hg1
    exact ⟨cur, hh⟩
/-- The table's own blocks are not the feed's, nor the vault's. -/
theorem Src.sepT {B : Nat} {w : World} {sb fb vb : Nat} {mt mv : Option Nat} {v : Value} {nt nv : Nat} {sec : ByteArray} {σ : Kept} {τ : Tab} {rs : List Rec} (h : Src B w sb fb vb mt mv v nt nv sec σ τ rs) {j : Nat} (hj : j = sb ∨ mt = some j) : j ∉ fb :: vb :: (mv.toList ++ v.ownBlock.toList) := by
  intro hmem
  rcases List.mem_cons.1 hmem with e | hmem
  · rcases hj with rfl | hj
    · exact h.tab.row.apartT h.feed.row (by decide) e
    · obtain ⟨D, ho, _⟩ := h.tab.held j hj
      exact h.feed.row.noMap ho e.symm
  · rcases List.mem_cons.1 hmem with e | hmem
    · rcases hj with rfl | hj
      · exact h.tab.row.apartT h.keys.row (by decide) e
      · obtain ⟨D, ho, _⟩ := h.tab.held j hj
        exact h.keys.row.noMap ho e.symm
    · rcases List.mem_append.1 hmem with e | e
      · have hv : mv = some j := by simpa using e
        rcases hj with rfl | hj
        · obtain ⟨D, ho, _⟩ := h.keys.held _ hv
          exact h.tab.row.noMap ho rfl
        · exact h.apart j j hj hv rfl
      · have hv : v.ownBlock = some j := by simpa using e
        obtain ⟨cur, hr⟩ := h.feed.block hv
        rcases hj with rfl | hj
        · exact h.tab.row.apartT hr (by decide) rfl
        · obtain ⟨D, ho, _⟩ := h.tab.held j hj
          exact hr.noMap ho rfl
theorem Src.lowL {B : Nat} {w : World} {sb fb vb : Nat} {mt mv : Option Nat} {v : Value} {nt nv : Nat} {sec : ByteArray} {σ : Kept} {τ : Tab} {rs : List Rec} (h : Src B w sb fb vb mt mv v nt nv sec σ τ rs) : ∀ j ∈ fb :: vb :: (mv.toList ++ v.ownBlock.toList), B ≤ j := by
  intro j hmem
  rcases List.mem_cons.1 hmem with rfl | hmem
  · exact h.lowF
  · rcases List.mem_cons.1 hmem with rfl | hmem
    · exact h.lowV
    · rcases List.mem_append.1 hmem with e | e
      · exact h.lowM j (by simpa using e)
      · exact h.lowG j (by simpa using e)
/-- An event is told. -/
theorem Src.tell {B : Nat} {w w' : World} {sb fb vb m : Nat} {mt mv : Option Nat} {v v' : Value} {nt nv : Nat} {sec : ByteArray} {σ σ' : Kept} {τ : Tab} {rs rs' : List Rec} (h : Src B w sb fb vb mt mv v nt nv sec σ τ rs) (hp : ProgV w' vb (some m) sec (nv + 1) σ') (hm : mv = some m ∨ (mv = none ∧ w.heap.size ≤ m)) (hf : FeedV w' fb vb v' rs') (hv : v'.ownBlock = v.ownBlock ∨ ∀ g, v'.ownBlock = some g → w.heap.size ≤ g) (hs : Stirred (fb :: vb :: (mv.toList ++ v.ownBlock.toList)) w w') (hfew : ∀ l, (σ' l).1 ≤ nv + 1) (hfit : ∀ r ∈ rs', Fit r) :
    Src B w' sb fb vb mt (some m) v' nt (nv + 1) sec σ' τ rs' ∧ Below B w w' := by
  have hb := h.base
  refine ⟨⟨h.tab.turned hs (h.sepT (.inl rfl)) (fun x hx => h.sepT (.inr hx)), hf, hp, hfew, ?_, hfit, Nat.le_trans hb hs.size, h.lowS, h.lowF, h.lowV, h.lowT, ?_, ?_⟩, hs.below hb h.lowL⟩
  · intro x x' hx hx'
    cases hx'
    rcases hm with e | ⟨_, e⟩
    · exact h.apart x m hx e
    · obtain ⟨D, ho, _⟩ := h.tab.held x hx
      have := ho.lt
      omega
  · intro x hx
    cases hx
    rcases hm with e | ⟨_, e⟩
    · exact h.lowM m e
    · omega
  · intro g hg
    rcases hv with e | e
    · exact h.lowG g (by rw [← e]; exact hg)
    · have := e g hg
      omega
/-- An event happens to the rows. -/
theorem Src.apply {B : Nat} {w w' : World} {sb fb vb : Nat} {mt mt' mv : Option Nat} {v : Value} {nt nv : Nat} {sec : ByteArray} {σ : Kept} {τ τ' : Tab} {rs : List Rec} (h : Src B w sb fb vb mt mv v nt nv sec σ τ rs) (hu : Upd w w' sb 112 #[.pointer (some ⟨vb, 0, none⟩), .pointer (some ⟨fb, 0, none⟩)] mt mt' (nt + 1) τ') :
    Src B w' sb fb vb mt' mv v (nt + 1) nv sec σ τ' rs ∧ Below B w w' := by
  obtain ⟨h1, h2, h3⟩ := hu
  have hb := h.base
  have far : ∀ j, j ∈ fb :: vb :: (mv.toList ++ v.ownBlock.toList) → j ∉ sb :: mt.toList := fun j hj hmem => by
    rcases List.mem_cons.1 hmem with e | e
    · exact h.sepT (.inl e) hj
    · exact h.sepT (.inr (by simpa using e)) hj
  have lowA : ∀ j ∈ sb :: mt.toList, B ≤ j := fun j hj => by
    rcases List.mem_cons.1 hj with rfl | e
    · exact h.lowS
    · exact h.lowT j (by simpa using e)
  refine ⟨⟨h1, h.feed.turned h3 (far fb (by simp)) (fun g hg => far g (by simp [hg])), h.keys.turned h3 (far vb (by simp)) (fun m e => far m (by simp [e])), h.few, ?_, h.fit, Nat.le_trans hb h3.size, h.lowS, h.lowF, h.lowV, ?_, h.lowM, h.lowG⟩, h3.below hb lowA⟩
  · intro x x' hx hx'
    rcases h2 with e | ⟨_, y, e, hl⟩
    · exact h.apart x x' (by rw [← e]; exact hx) hx'
    · rw [e] at hx
      cases hx
      obtain ⟨D, ho, _⟩ := h.keys.held x' hx'
      have := ho.lt
      omega
  · intro x hx
    rcases h2 with e | ⟨_, y, e, hl⟩
    · exact h.lowT x (by rw [← e]; exact hx)
    · rw [e] at hx
      cases hx
      omega
end Go.Proofs.YtdjpghgnjcmdnaaGreatDoor
