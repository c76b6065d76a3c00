/- Texts of this proof, one behind the other. -/
import Derived.Deep.RegionHeld3
import Derived.Laws.StructEq
import Derived.Shelf.SlicesE.Clone
import Derived.Test.YtkbaalenbpgheaaGreatDoorPart30
/- A fact: records as bytes; records held against each other. -/
namespace Go.Proofs.YtkbaalenbpgheaaGreatDoor
open Go.RowKit
attribute [local go_sem ↓] Go.wp_at_zero Go.wp_at_succ
theorem heldRec : Tryz.prog.stoodInHeld 30 = false := by kernel_rfl
theorem fieldsRec : Tryz.prog.underlying 30 = some (.struct (Tryz.prog.fieldsOf 30)) := by kernel_rfl
def eqRec (q : Int) (s : ByteArray) (g : Int) (p d : ByteArray) (q' : Int) (s' : ByteArray) (g' : Int) (p' d' : ByteArray) : Bool := (q == q') && ((s.toList == s'.toList) && ((g == g') && ((p.toList == p'.toList) && (d.toList == d'.toList))))
theorem recW_equal (q : Int) (s : ByteArray) (g : Int) (p d : ByteArray) (q' : Int) (s' : ByteArray) (g' : Int) (p' d' : ByteArray) (w : World) : (Op.equalIn 10000 30 (.agg #[.int .i64 q, .string s, .int .i64 g, .string p, .string d]) (.agg #[.int .i64 q', .string s', .int .i64 g', .string p', .string d'])).run Tryz.prog w = .ok (eqRec q s g p d q' s' g' p' d') w := by
  rw [show (10000 : Nat) = 9999 + 1 from rfl, run_equalIn_agg w 9999 30 _ _ fieldsRec heldRec]
  simp only [Program.fieldsOf, Tryz.underlying30]
  unfold eqRec
  go_simp
  by_cases h1 : q = q' <;> by_cases h2 : s.toList = s'.toList <;> by_cases h3 : g = g' <;> by_cases h4 : p.toList = p'.toList <;> by_cases h5 : d.toList = d'.toList <;> simp [h1, h2, h3, h4, h5]
theorem eqRec_self (q : Int) (s : ByteArray) (g : Int) (p d : ByteArray) : eqRec q s g p d q s g p d = true := by simp [eqRec]
theorem recW_eql (q : Int) (s : ByteArray) (g : Int) (p d : ByteArray) (w : World) : (binOp .eql 30 (.agg #[.int .i64 q, .string s, .int .i64 g, .string p, .string d]) (.agg #[.int .i64 q, .string s, .int .i64 g, .string p, .string d])).run Tryz.prog w = .ok (.bool true) w := by
  rw [run_eql_struct, recW_equal, eqRec_self]; rfl
theorem recW_neq (q : Int) (s : ByteArray) (g : Int) (p d : ByteArray) (w : World) : (binOp .neq 30 (.agg #[.int .i64 q, .string s, .int .i64 g, .string p, .string d]) (.agg #[.int .i64 q, .string s, .int .i64 g, .string p, .string d])).run Tryz.prog w = .ok (.bool false) w := by
  rw [run_neq_struct, recW_equal, eqRec_self]; rfl
/-- The fact's record. -/
def recW1 : Rec := ⟨1, ⟨#[97, 110, 110]⟩, 0, ⟨#[0, 0, 0, 0, 0, 0, 0, 0, 0, 0, 0, 0, 0, 0, 0, 0]⟩, ⟨#[103, 111, 110, 101, 32, 97, 110, 110]⟩⟩
theorem rec1_right : RightR recW1 := ⟨by decide, by decide, by decide, by decide, rfl, by decide⟩
theorem rec1_fit : Fit recW1 := ⟨by decide, by decide, by decide, by decide, by decide⟩
theorem rec1_len : (wireL recW1).length = 48 := by rw [wireL_len]; rfl
theorem tx_cut (l : List UInt8) (i j : Nat) : (tx l).extract i j = tx ((l.drop i).take (j - i)) := by
  apply ByteArray.ext
  rw [ByteArray.data_extract]
  apply Array.toList_inj.1
  rw [Array.toList_extract]
  rfl
theorem rec1_mid : (tx (wireL recW1)).extract 16 21 = ⟨#[1, 3, 97, 110, 110]⟩ := by
  have hm : (markR recW1).data.toList.length = 16 := markR_size recW1
  rw [tx_cut]
  unfold wireL
  rw [drop_app hm]
  rfl
theorem rec1_mark : (tx (wireL recW1)).extract 0 16 = markR recW1 := by
  have hm : (markR recW1).data.toList.length = 16 := markR_size recW1
  rw [tx_take]
  unfold wireL
  rw [take_app hm]
  rfl
set_option maxRecDepth 100000 in
set_option maxHeartbeats 4000000 in
theorem written_any (w : World) (hK : TabK w) : Calls Tryz.prog 36 #[] w fun x w' => x = .returned (.bool true) ∧ Below w.heap.size w w' := by
  have bel : Below w.heap.size w (w.alloc (.cells #[.int .i64 1, .string ⟨#[97, 110, 110]⟩, .int .i64 0, .string ⟨#[0, 0, 0, 0, 0, 0, 0, 0, 0, 0, 0, 0, 0, 0, 0, 0]⟩, .string ⟨#[103, 111, 110, 101, 32, 97, 110, 110]⟩] 30)) := (Below.refl _ w).alloc (Nat.le_refl _) _
  have X0 := hide (HasR.new w 30 #[.int .i64 1, .string ⟨#[97, 110, 110]⟩, .int .i64 0, .string ⟨#[0, 0, 0, 0, 0, 0, 0, 0, 0, 0, 0, 0, 0, 0, 0, 0]⟩, .string ⟨#[103, 111, 110, 101, 32, 97, 110, 110]⟩])
  have BL := hide bel
  have KK := hide (fun wx (hb : Below w.heap.size w wx) => hK.below hb hK.lt)
  have WO : Hid (∀ wx, TabK wx → Calls Tryz.prog 66 #[.agg #[.int .i64 1, .string ⟨#[97, 110, 110]⟩, .int .i64 0, .string ⟨#[0, 0, 0, 0, 0, 0, 0, 0, 0, 0, 0, 0, 0, 0, 0, 0]⟩, .string ⟨#[103, 111, 110, 101, 32, 97, 110, 110]⟩]] wx fun x w' => x = .returned (.tuple #[.string (tx (wireL recW1)), .nilIface]) ∧ Below wx.heap.size wx w') := hide (fun wx hk => write_ok recW1 rec1_right wx hk)
  have MK : Hid (∀ wx, TabK wx → Calls Tryz.prog 65 #[.agg #[.int .i64 1, .string ⟨#[97, 110, 110]⟩, .int .i64 0, .string ⟨#[0, 0, 0, 0, 0, 0, 0, 0, 0, 0, 0, 0, 0, 0, 0, 0]⟩, .string ⟨#[103, 111, 110, 101, 32, 97, 110, 110]⟩]] wx fun e w' => e = .returned (.string (markR recW1)) ∧ Below wx.heap.size wx w') := hide (fun wx hk => markRec_any recW1 wx rec1_fit hk)
  have hpv : parseV (wireL recW1) = .tuple #[.agg #[.int .i64 1, .string ⟨#[97, 110, 110]⟩, .int .i64 0, .string ⟨#[0, 0, 0, 0, 0, 0, 0, 0, 0, 0, 0, 0, 0, 0, 0, 0]⟩, .string ⟨#[103, 111, 110, 101, 32, 97, 110, 110]⟩], .nilIface] := parseV_some (parseL_iff.2 ⟨rec1_right, rfl⟩)
  have P0 := fun wx (hk : TabK wx) => parse_any (wireL recW1) wx hk
  rw [hpv] at P0
  have PA := hide P0
  have hsz : (tx (wireL recW1)).size = 48 := rec1_len
  have hmid := rec1_mid
  have hmark := rec1_mark
  have hq1 : ((tx (wireL recW1)).extract 16 21).toList = [1, 3, 97, 110, 110] := by rw [hmid, ByteArray.toList_eq]
  have hq2 : (((tx (wireL recW1)).extract 0 16).toList == (markR recW1).toList) = true := by rw [hmark]; simp
  have hne : ∀ w : World, (binOp .neq 32 .nilIface .nilIface).run Tryz.prog w = .ok (.bool false) w := fun w => by kernel_rfl
  have heq : ∀ w : World, (binOp .eql 32 .nilIface .nilIface).run Tryz.prog w = .ok (.bool true) w := fun w => by kernel_rfl
  have hre := recW_eql 1 ⟨#[97, 110, 110]⟩ 0 ⟨#[0, 0, 0, 0, 0, 0, 0, 0, 0, 0, 0, 0, 0, 0, 0, 0]⟩ ⟨#[103, 111, 110, 101, 32, 97, 110, 110]⟩
  clear P0 hpv bel hK hmid hmark
  generalize markR recW1 = ma at MK hq2
  generalize wireL recW1 = WL at WO PA hsz hq1 hq2
  go_enter Tryz.func36, Tryz.ntmps36
  go_upto_region 2 with fail
  generalize w.alloc (.cells #[.int .i64 1, .string ⟨#[97, 110, 110]⟩, .int .i64 0, .string ⟨#[0, 0, 0, 0, 0, 0, 0, 0, 0, 0, 0, 0, 0, 0, 0, 0]⟩, .string ⟨#[103, 111, 110, 101, 32, 97, 110, 110]⟩] 30) = W1 at X0 BL ⊢
  have CC := hide (fun wx (hb : Below W1.heap.size W1 wx) => (show wx.cell? ⟨w.heap.size, 0, none⟩ = some (.int .i64 1) ∧ wx.cell? ⟨w.heap.size, 1, none⟩ = some (.string ⟨#[97, 110, 110]⟩) ∧ wx.cell? ⟨w.heap.size, 2, none⟩ = some (.int .i64 0) ∧ wx.cell? ⟨w.heap.size, 3, none⟩ = some (.string ⟨#[0, 0, 0, 0, 0, 0, 0, 0, 0, 0, 0, 0, 0, 0, 0, 0]⟩) ∧ wx.cell? ⟨w.heap.size, 4, none⟩ = some (.string ⟨#[103, 111, 110, 101, 32, 97, 110, 110]⟩) from ⟨(X0.out.below hb X0.out.lt).cell 0, (X0.out.below hb X0.out.lt).cell 1, (X0.out.below hb X0.out.lt).cell 2, (X0.out.below hb X0.out.lt).cell 3, (X0.out.below hb X0.out.lt).cell 4⟩))
  have TT := hide (fun wx (hb : Below W1.heap.size W1 wx) => KK.out wx (BL.out.trans (hb.mono BL.out.size)))
  obtain ⟨c0, c1, c2, c3, c4⟩ := CC.out _ (Below.refl _ W1)
  have WX := hide (WO.out W1 (TT.out _ (Below.refl _ W1)))
  go_upto_region 3 with (go_at_call 66; (with_reducible refine WX.out.mono ?_); rintro y w2 ⟨rfl, hb2⟩; have B2 := hide hb2; clear hb2)
  clear c0 c1 c2 c3 c4
  obtain ⟨c0, c1, c2, c3, c4⟩ := CC.out _ B2.out
  have BD := hide B2.out.drew
  have MD := hide (MK.out _ (TT.out _ BD.out))
  go_cut [29] (fun s29 wx => s29 = .bool false ∧ Below W1.heap.size W1 wx)
  case first =>
    go_region_held3 (fun wx => wx.cell? ⟨w.heap.size, 0, none⟩ = some (.int .i64 1) ∧ wx.cell? ⟨w.heap.size, 1, none⟩ = some (.string ⟨#[97, 110, 110]⟩) ∧ wx.cell? ⟨w.heap.size, 2, none⟩ = some (.int .i64 0) ∧ wx.cell? ⟨w.heap.size, 3, none⟩ = some (.string ⟨#[0, 0, 0, 0, 0, 0, 0, 0, 0, 0, 0, 0, 0, 0, 0, 0]⟩) ∧ wx.cell? ⟨w.heap.size, 4, none⟩ = some (.string ⟨#[103, 111, 110, 101, 32, 97, 110, 110]⟩)) (first | (with_reducible exact K3.out) | go_keep)
      ((go_at_call 65; (with_reducible refine MD.out.mono ?_); rintro y w3 ⟨rfl, hb3⟩; have B3 := hide (BD.out.trans (hb3.mono BD.out.size)); have K3 := hide (CC.out _ B3.out); clear hb3))
    all_goals
      go_wp2
      go_meet
      exact ⟨rfl, B3.out⟩
  case rest =>
    obtain ⟨rfl, hbc⟩ := hcut
    have BC := hide hbc
    clear hbc c0 c1 c2 c3 c4
    have PX := hide (PA.out _ (TT.out _ BC.out))
    go_upto_region 6 with (go_at_call 67; (with_reducible refine PX.out.mono ?_); rintro y w5 ⟨rfl, hb5⟩; have B5 := hide (BC.out.trans (hb5.mono BC.out.size)); clear hb5)
    have l5 := B5.out.size
    have lw := X0.out.lt
    obtain ⟨c0, c1, c2, c3, c4⟩ := CC.out _ (B5.out.alloc l5 (.cells #[.int .i64 1, .string ⟨#[97, 110, 110]⟩, .int .i64 0, .string ⟨#[0, 0, 0, 0, 0, 0, 0, 0, 0, 0, 0, 0, 0, 0, 0, 0]⟩, .string ⟨#[103, 111, 110, 101, 32, 97, 110, 110]⟩] 30))
    have BF := hide (B5.out.alloc l5 (.cells #[.int .i64 1, .string ⟨#[97, 110, 110]⟩, .int .i64 0, .string ⟨#[0, 0, 0, 0, 0, 0, 0, 0, 0, 0, 0, 0, 0, 0, 0, 0]⟩, .string ⟨#[103, 111, 110, 101, 32, 97, 110, 110]⟩] 30))
    have XX := hide (HasR.new w5 30 #[.int .i64 1, .string ⟨#[97, 110, 110]⟩, .int .i64 0, .string ⟨#[0, 0, 0, 0, 0, 0, 0, 0, 0, 0, 0, 0, 0, 0, 0, 0]⟩, .string ⟨#[103, 111, 110, 101, 32, 97, 110, 110]⟩])
    generalize w5.alloc (.cells #[.int .i64 1, .string ⟨#[97, 110, 110]⟩, .int .i64 0, .string ⟨#[0, 0, 0, 0, 0, 0, 0, 0, 0, 0, 0, 0, 0, 0, 0, 0]⟩, .string ⟨#[103, 111, 110, 101, 32, 97, 110, 110]⟩] 30) = w6 at c0 c1 c2 c3 c4 BF XX ⊢
    have x0 : w6.cell? ⟨w5.heap.size, 0, none⟩ = some (.int .i64 1) := XX.out.cell 0
    have x1 : w6.cell? ⟨w5.heap.size, 1, none⟩ = some (.string ⟨#[97, 110, 110]⟩) := XX.out.cell 1
    have x2 : w6.cell? ⟨w5.heap.size, 2, none⟩ = some (.int .i64 0) := XX.out.cell 2
    have x3 : w6.cell? ⟨w5.heap.size, 3, none⟩ = some (.string ⟨#[0, 0, 0, 0, 0, 0, 0, 0, 0, 0, 0, 0, 0, 0, 0, 0]⟩) := XX.out.cell 3
    have x4 : w6.cell? ⟨w5.heap.size, 4, none⟩ = some (.string ⟨#[103, 111, 110, 101, 32, 97, 110, 110]⟩) := XX.out.cell 4
    go_wp2
    go_ret
    exact ⟨rfl, BL.out.trans (BF.out.mono BL.out.size)⟩
end Go.Proofs.YtkbaalenbpgheaaGreatDoor

/- Do of any short event: it happened, or an error is told and nothing is changed. -/
namespace Go.Proofs.YtkbaalenbpgheaaGreatDoor
open Go.RowKit Go.Sort
/-- An event that happens: it may be, it is not refused, and who is forgotten is known. -/
def doesB (σ : Kept) (τ : Tab) (e : Ev) : Bool := rightB e && (decide (refuseB τ e = 0) && (!decide (e.k = 3) || (σ e.s.data.toList).2))
theorem do_any (B : Nat) (w : World) (sb fb vb : Nat) (mt mv : Option Nat) (v : Value) (nt nv : Nat) (sec : ByteArray) (σ : Kept) (τ : Tab) (rs : List Rec) (e : Ev) (h : Src B w sb fb vb mt mv v nt nv sec σ τ rs) (he : Brief e) (hp : sec.size ≤ 60) (hlen : rs.length < 100) (hnv : nv < 1000) (hnt : nt < 1000) (T : Tabs w) (hB : 3 < B) :
    Calls Tryz.prog 10 #[.pointer (some ⟨sb, 0, none⟩), .agg #[.int .i64 e.k, .string e.s, .string e.t, .string e.r, .string e.v]] w fun x w' =>
      (doesB σ τ e = true ∧ x = .returned (.tuple #[.agg (recA (tellR sec σ rs e)), .nilIface]) ∧ (∃ mt' m v', Src B w' sb fb vb mt' (some m) v' (nt + 1) (nv + 1) sec (tellK σ e) (app e τ) (rs ++ [tellR sec σ rs e]) ∧ ∀ j ∈ ownS sb fb vb mt' (some m) v', j ∈ ownS sb fb vb mt mv v ∨ w.heap.size ≤ j) ∧ Stirred (ownS sb fb vb mt mv v) w w' ∧ Below B w w') ∨
      (doesB σ τ e = false ∧ (∃ n : Int, x = .returned (.tuple #[.agg #[.int .i64 0, .string ⟨#[]⟩, .int .i64 0, .string ⟨#[]⟩, .string ⟨#[]⟩], .iface 56 (.int .i64 n)])) ∧ Src B w' sb fb vb mt mv v nt nv sec σ τ rs ∧ Below w.heap.size w w') := by
  by_cases h0 : refuseB τ e = 0
  · cases hr : rightB e
    · refine (do_untold sb fb _ mt nt τ e 1 w he h.tab h0 (fun wx _ => tell_bad wx fb e hr)).mono ?_
      rintro x w' ⟨rfl, hb⟩
      exact .inr ⟨by unfold doesB; rw [hr]; rfl, ⟨_, rfl⟩, h.still hb, hb⟩
    · by_cases hk : e.k = 3 ∧ (σ e.s.data.toList).2 = false
      · refine (do_untold sb fb _ mt nt τ e 8 w he h.tab h0 (fun wx hb => tell_none wx fb vb v rs mv sec nv σ e (h.still hb).feed (h.still hb).keys hr hk.1 hk.2 h.fit hlen (T.k.below hb T.k.lt) (T.l.below hb T.l.lt))).mono ?_
        rintro x w' ⟨rfl, hb⟩
        exact .inr ⟨by unfold doesB; rw [hr, hk.2]; simp [hk.1], ⟨_, rfl⟩, h.still hb, hb⟩
      · have hg : e.k = 3 → (σ e.s.data.toList).2 = true := fun e3 => by
          cases hq : (σ e.s.data.toList).2
          · exact absurd ⟨e3, hq⟩ hk
          · rfl
        refine (do_ok B w sb fb vb mt mv v nt nv sec σ τ rs e h he hr h0 hg hp hlen hnv hnt T.l (fun w' hb => T.k.below hb hB)).mono ?_
        rintro x w' ⟨rfl, hs, hb⟩
        refine .inl ⟨?_, rfl, hs, hb, hb.below h.base h.lowO⟩
        unfold doesB
        rw [hr]
        by_cases e3 : e.k = 3
        · simp [h0, hg e3]
        · simp [h0, e3]
  · refine (do_refused sb _ _ mt nt τ e w he h.tab h0).mono ?_
    rintro x w' ⟨rfl, hb⟩
    exact .inr ⟨by unfold doesB; simp [h0], ⟨_, rfl⟩, h.still hb, hb⟩
theorem does_parts {σ : Kept} {τ : Tab} {e : Ev} (h : doesB σ τ e = true) : rightB e = true ∧ refuseB τ e = 0 := by
  unfold doesB at h
  simp only [Bool.and_eq_true, decide_eq_true_eq] at h
  exact ⟨h.1, h.2.1⟩
end Go.Proofs.YtkbaalenbpgheaaGreatDoor

/- A feed's records, and a source's: a fresh row. -/
namespace Go.Proofs.YtkbaalenbpgheaaGreatDoor
open Go.RowKit Go.Sort Go.Shelf
attribute [local go_sem ↓] Go.wp_at_zero Go.wp_at_succ
def laysCloneR_ren : Go.Shelf.Ren := ⟨fun | 41 => 78 | n => n, fun | 22 => 39 | 23 => 30 | 4 => 4 | n => n, fun | n => n⟩
theorem laysCloneR : Go.Proofs.SlLaysE0.n41 Tryz.prog laysCloneR_ren := {
  mixed := by kernel_rfl
  f41 := ⟨Tryz.f78.name, by decide, Tryz.func78.trans (congrArg some (by kernel_rfl))⟩
  t4 := Tryz.underlying4
  a4 := Tryz.isAgg4
  z4 := Tryz.sizeOf4
  v4 := Tryz.zeroValue4
  t22 := Tryz.underlying39
  a22 := Tryz.isAgg39
  z22 := Tryz.sizeOf39
  v22 := Tryz.zeroValue39 }
theorem recsL_len : ∀ rs : List Rec, (recsL rs).length = rs.length * 5
  | [] => rfl
  | r :: rs => by
    have ih := recsL_len rs
    have e : recsL (r :: rs) = recL r ++ recsL rs := rfl
    have e5 : (recL r).length = 5 := rfl
    rw [e, List.length_append, ih, e5, List.length_cons]
    omega
theorem recL_one (r : Rec) (u : Value) (h : u ∈ recL r) : u.oneCell' = true := by
  simp only [recL, List.mem_cons, List.not_mem_nil, or_false] at h
  rcases h with rfl | rfl | rfl | rfl | rfl <;> rfl
/-- slices.Clone. -/
theorem cloneR_any (b : Nat) (v : Value) (rs : List Rec) (w : World) (h : w.ownsRow b 30 5 v rs.length (recsL rs)) (hl : rs.length ≤ 1000) :
    Calls Tryz.prog 78 #[v] w fun x w' => ∃ u, x = .returned u ∧ w'.ownsRow w.heap.size 30 5 u rs.length (recsL rs) ∧ Below w.heap.size w w' := by
  obtain ⟨i0, hi, hz0, hz1, hz2⟩ := info_parts info66
  have hlen := recsL_len rs
  rcases h.2 with ⟨e, e0⟩ | ⟨g, cap, cur, hv, hb, hg, h1, h2, h3, h4⟩
  · subst e
    have er : rs = [] := List.eq_nil_of_length_eq_zero e0
    subst er
    refine (AnyE.slices_Clone_nil (ρ := laysCloneR_ren) laysCloneR 0 0 w).mono ?_
    rintro x w' ⟨rfl, rfl⟩
    exact ⟨_, rfl, World.ownsRow_nil _ _ _ _, Below.refl _ _⟩
  · subst hv
    refine (AnyE.slices_Clone (ρ := laysCloneR_ren) laysCloneR i0 (.agg rec0) 5 64 hi hz0 hz1 hz2 rfl (by omega) (fun w => Tryz.sizeOf30 w) g 0 rs.length cap (recsL rs) w hlen (by unfold maxLen; omega) (by omega) ?_ ?_).mono ?_
    · intro j u hj
      have hj5 : j < rs.length * 5 := by
        have := (List.getElem?_eq_some_iff.1 hj).1
        omega
      rw [Nat.zero_add, cell_of_row w g _ cur 30 (0, 0) hg, ← Array.getElem?_toList, ← List.getElem?_take_of_lt (j := rs.length * 5) hj5, h4]
      exact hj
    · intro u hu
      unfold recsL at hu
      obtain ⟨r, _, hr⟩ := List.mem_flatMap.1 hu
      exact recL_one r u hr
    · rintro x w' ⟨u, rfl, ho, _, hb⟩
      exact ⟨u, rfl, ho, hb⟩
set_option maxRecDepth 100000 in
set_option maxHeartbeats 1000000 in
theorem records_any (w : World) (fb vb : Nat) (v : Value) (rs : List Rec) (h : FeedV w fb vb v rs) (hl : rs.length ≤ 1000) :
    Calls Tryz.prog 50 #[.pointer (some ⟨fb, 0, none⟩)] w fun x w' => ∃ u, x = .returned u ∧ w'.ownsRow w.heap.size 30 5 u rs.length (recsL rs) ∧ Below w.heap.size w w' := by
  have hq := ptrF_nil fb
  have c1 : w.cell? ⟨fb, 1, none⟩ = some v := h.row.cell 1
  obtain ⟨p, c, rfl⟩ := h.slice
  have C := hide (cloneR_any (fb + 1) _ rs w h.own hl)
  clear h
  go_enter Tryz.func50, Tryz.ntmps50
  go_wp2_with (go_at_call 78; (with_reducible refine C.out.mono ?_); rintro x w1 ⟨u, rfl, ho, hb⟩)
  go_ret
  exact ⟨u, rfl, ho, hb⟩
set_option maxRecDepth 100000 in
set_option maxHeartbeats 1000000 in
theorem srcFeed_any (B : Nat) (w : World) (sb fb vb : Nat) (mt mv : Option Nat) (v : Value) (nt nv : Nat) (sec : ByteArray) (σ : Kept) (τ : Tab) (rs : List Rec) (h : Src B w sb fb vb mt mv v nt nv sec σ τ rs) (hl : rs.length ≤ 1000) :
    Calls Tryz.prog 13 #[.pointer (some ⟨sb, 0, none⟩)] w fun x w' => ∃ u, x = .returned u ∧ w'.ownsRow w.heap.size 30 5 u rs.length (recsL rs) ∧ Below w.heap.size w w' := by
  have hq := ptrS_nil sb
  have c1 : w.cell? ⟨sb, 1, none⟩ = some (.pointer (some ⟨fb, 0, none⟩)) := h.tab.row.cell 1
  have C := hide (records_any w fb vb v rs h.feed hl)
  clear h
  go_enter Tryz.func13, Tryz.ntmps13
  go_wp2_with (go_at_call 50; (with_reducible refine C.out.mono ?_); rintro x w1 ⟨u, rfl, ho, hb⟩)
  go_ret
  exact ⟨u, rfl, ho, hb⟩
end Go.Proofs.YtkbaalenbpgheaaGreatDoor
