/- For every two lists of events and every number: a reader that read the beginning of a feed is saved, more happens at the source, and what is loaded and reads on has, behind each record, what the first one has when it reads on, and at last the source's rows: ReaderSaves returns true, and each list reads behind the call as it did before. The library's type of errors, the tables of the sum and of the kinds, and the library's two tables of runes start as their texts lay them (the card ties that). -/
import Derived.Test.YtkbaalenbpgheaaGreatDoorPart35
/- Load: the loop over the rows. -/
namespace Go.Proofs.YtkbaalenbpgheaaGreatDoor
open Go.RowKit Go.Sort
attribute [local go_sem ↓] Go.wp_at_zero Go.wp_at_succ
set_option linter.unusedSectionVars false
variable [Inhabited Cl] [Inhabited Ev]
/-- The row ahead of the next one. -/
def aheadC (ds : List Cl) (j : Nat) : Cl := if j = 0 then cl0 else ds[j - 1]!
theorem aheadC_next (ds : List Cl) (j : Nat) : aheadC ds (j + 1) = ds[j]! := by
  unfold aheadC
  rw [if_neg (by omega)]
  rfl
theorem ltB_empty {b : ByteArray} (h : 1 ≤ b.size) : ltB ByteArray.empty b = true := by
  have hne : b.data.toList ≠ [] := fun e => by
    have := congrArg List.length e
    have h2 : b.data.toList.length = b.size := rfl
    rw [h2] at this
    have h3 : ([] : List UInt8).length = 0 := rfl
    omega
  unfold ltB
  rw [decide_eq_true_eq]
  have e0 : ByteArray.empty.data.toList = [] := rfl
  rw [e0]
  cases hb : b.data.toList with
  | nil => exact absurd hb hne
  | cons x l => exact List.nil_lt_cons x l
theorem put_named {c : Cl} (h : rightB (evOfC c) = true) : 1 ≤ c.t.size := by
  unfold rightB bodyB evOfC at h
  simp at h
  have h2 := h.2.1
  unfold rowNB at h2
  simp at h2
  exact name_size h2.1
theorem ahead_lt {τ : Tab} {ds : List Cl} {j : Nat} (h : InOrd τ ds) (hr : ∀ c ∈ ds, rightB (evOfC c) = true) (hj : j < ds.length) : ltC (aheadC ds j) ds[j]! = true := by
  rw [getElem!_pos ds j hj]
  unfold aheadC
  split
  · have h1 := put_named (hr _ (List.getElem_mem hj))
    rw [ltC_iff]
    exact .inl (ltB_empty h1)
  · rw [getElem!_pos ds (j - 1) (by omega)]
    exact List.pairwise_iff_getElem.1 h.1 (j - 1) j (by omega) hj (by omega)
theorem take_snoc1 (ds : List Cl) (k : Nat) (h : k < ds.length) : ds.take (k + 1) = ds.take k ++ [ds[k]!] := by
  rw [List.take_succ_eq_append_getElem h, getElem!_pos ds k h]
set_option maxRecDepth 100000 in
set_option maxHeartbeats 4000000 in
/-- Load, of what may be. -/
theorem load_any (w : World) (vb read lost : Nat) (mark : ByteArray) (p : Option Addr) (cap b0 : Nat) (ds : List Cl) (τ : Tab) (hrow : RowC w b0 (.slice p ds.length cap) ds) (hord : InOrd τ ds) (hr : ∀ c ∈ ds, rightB (evOfC c) = true) (hbr : ∀ c ∈ ds, Brief (evOfC c)) (hlen : ds.length ≤ 100) (hl : lost ≤ read) (hm : mark.size = 16) (h0 : read = 0 → mark = noneB ∧ ds.length = 0) :
    Calls Tryz.prog 31 #[.pointer (some ⟨vb, 0, none⟩), .agg #[.int .i64 (read : Int), .string mark, .slice p ds.length cap, .int .i64 (lost : Int)]] w fun x w' => ∃ xb mt, x = .returned (.tuple #[.pointer (some ⟨xb, 0, none⟩), .nilIface]) ∧ TabV w' xb 115 #[.pointer (some ⟨vb, 0, none⟩), .int .i64 (read : Int), .string mark, .int .i64 (lost : Int)] mt ds.length τ ∧ w.heap.size ≤ xb ∧ (∀ m, mt = some m → w.heap.size ≤ m) ∧ Below w.heap.size w w' := by
  have bel : Below w.heap.size w (w.alloc (.cells #[.int .i64 (read : Int), .string mark, .slice p ds.length cap, .int .i64 (lost : Int)] 67)) := (Below.refl _ w).alloc (Nat.le_refl _) _
  have E0 := hide (HasR.new w 67 #[.int .i64 (read : Int), .string mark, .slice p ds.length cap, .int .i64 (lost : Int)])
  have CF := hide (fun wx => counts_any wx read lost mark p ds.length cap hl hm)
  have BF := hide (fun wx => begins_any wx read lost mark p ds.length cap h0)
  have HR := hide hrow
  have HO := hide hord
  have HRR := hide hr
  have HBR := hide hbr
  have BL := hide bel
  have hq := ptrV_nil vb
  have hne := nilNe
  clear hrow hord hr hbr bel hm h0
  go_enter Tryz.func31, Tryz.ntmps31
  go_upto_region 3 with fail
  generalize w.alloc (.cells #[.int .i64 (read : Int), .string mark, .slice p ds.length cap, .int .i64 (lost : Int)] 67) = W1 at E0 BL ⊢
  have e0 : W1.cell? ⟨w.heap.size, 0, none⟩ = some (.int .i64 (read : Int)) := E0.out.cell 0
  have e1 : W1.cell? ⟨w.heap.size, 1, none⟩ = some (.string mark) := E0.out.cell 1
  have e2 : W1.cell? ⟨w.heap.size, 2, none⟩ = some (.slice p ds.length cap) := E0.out.cell 2
  have e3 : W1.cell? ⟨w.heap.size, 3, none⟩ = some (.int .i64 (lost : Int)) := E0.out.cell 3
  go_upto_region 8 with (first
    | (go_at_call 59; (with_reducible refine (CF.out _).mono ?_); rintro y w2 ⟨rfl, hb2⟩
       have B2 := hide (BL.out.trans (hb2.mono BL.out.size))
       have E2 := hide (E0.out.below hb2 E0.out.lt)
       have f0 : w2.cell? ⟨w.heap.size, 0, none⟩ = some (.int .i64 (read : Int)) := E2.out.cell 0
       have f1 : w2.cell? ⟨w.heap.size, 1, none⟩ = some (.string mark) := E2.out.cell 1
       have f2 : w2.cell? ⟨w.heap.size, 2, none⟩ = some (.slice p ds.length cap) := E2.out.cell 2
       have f3 : w2.cell? ⟨w.heap.size, 3, none⟩ = some (.int .i64 (lost : Int)) := E2.out.cell 3
       clear hb2)
    | (go_at_call 60; (with_reducible refine (BF.out _).mono ?_); rintro y w3 ⟨rfl, hb3⟩
       have B3 := hide (B2.out.trans (hb3.mono B2.out.size))
       have E3 := hide (E2.out.below hb3 E2.out.lt)
       have g0 : w3.cell? ⟨w.heap.size, 0, none⟩ = some (.int .i64 (read : Int)) := E3.out.cell 0
       have g1 : w3.cell? ⟨w.heap.size, 1, none⟩ = some (.string mark) := E3.out.cell 1
       have g2 : w3.cell? ⟨w.heap.size, 2, none⟩ = some (.slice p ds.length cap) := E3.out.cell 2
       have g3 : w3.cell? ⟨w.heap.size, 3, none⟩ = some (.int .i64 (lost : Int)) := E3.out.cell 3
       have lw3 := E3.out.lt
       clear hb3))
  clear e0 e1 e2 e3 f0 f1 f2 f3 g0 g1 g2 g3
  have Z := hide ((((Below.refl _ w3).alloc (Nat.le_refl _) (.cells #[.pointer (some ⟨vb, 0, none⟩), .int .i64 (read : Int), .string mark, .int .i64 (lost : Int), .map none] 115)).alloc (by simp) (.cells #[.pointer (some ⟨w3.heap.size, 0, none⟩)] 63)).alloc (by simp; omega) (.cells #[.string ⟨#[]⟩, .string ⟨#[]⟩, .string ⟨#[]⟩, .string ⟨#[]⟩] 42))
  have X1 := hide (((HasR.new w3 115 #[.pointer (some ⟨vb, 0, none⟩), .int .i64 (read : Int), .string mark, .int .i64 (lost : Int), .map none]).alloc (.cells #[.pointer (some ⟨w3.heap.size, 0, none⟩)] 63)).alloc (.cells #[.string ⟨#[]⟩, .string ⟨#[]⟩, .string ⟨#[]⟩, .string ⟨#[]⟩] 42))
  have X2 := HasR.new (w3.alloc (.cells #[.pointer (some ⟨vb, 0, none⟩), .int .i64 (read : Int), .string mark, .int .i64 (lost : Int), .map none] 115)) 63 #[.pointer (some ⟨w3.heap.size, 0, none⟩)]
  have X3 := HasR.new ((w3.alloc (.cells #[.pointer (some ⟨vb, 0, none⟩), .int .i64 (read : Int), .string mark, .int .i64 (lost : Int), .map none] 115)).alloc (.cells #[.pointer (some ⟨w3.heap.size, 0, none⟩)] 63)) 42 #[.string ⟨#[]⟩, .string ⟨#[]⟩, .string ⟨#[]⟩, .string ⟨#[]⟩]
  have X2 := X2.alloc (.cells #[.string ⟨#[]⟩, .string ⟨#[]⟩, .string ⟨#[]⟩, .string ⟨#[]⟩] 42)
  rw [World.size_alloc] at X2
  rw [World.size_alloc, World.size_alloc] at X3
  have H2 := hide X2
  have H3 := hide X3
  clear X2 X3
  generalize ((w3.alloc (.cells #[.pointer (some ⟨vb, 0, none⟩), .int .i64 (read : Int), .string mark, .int .i64 (lost : Int), .map none] 115)).alloc (.cells #[.pointer (some ⟨w3.heap.size, 0, none⟩)] 63)).alloc (.cells #[.string ⟨#[]⟩, .string ⟨#[]⟩, .string ⟨#[]⟩, .string ⟨#[]⟩] 42) = W6 at Z X1 H2 H3 ⊢
  have hs3 := B3.out.size
  have B6 := hide (B3.out.trans (Z.out.mono hs3))
  have L0 := hide (Ld.mk (w0 := w) (k := 0) (τ := tab0) (a := cl0) (lost := lost) (mark := mark) (read := read) ⟨none, ⟨X1.out, fun _ => rfl, (fun m e => by cases e)⟩, (fun m e => by cases e)⟩ H2.out H3.out hs3 (by omega) (by omega) B6.out)
  have E6 := hide (E3.out.below Z.out lw3)
  have R6 := hide ((HR.out.below (B6.out) (Nat.le_refl _)))
  have q2 : W6.cell? ⟨w.heap.size, 2, none⟩ = some (.slice p ds.length cap) := E6.out.cell 2
  clear Z X1 H2 H3 CF BF E0 E2 E3 BL B2 B3
  go_wp2
  go_loopw [37] (fun i wr => ∃ j : Nat, i = .int .i64 j ∧ j ≤ ds.length ∧ Ld w wr w3.heap.size (w3.heap.size + 1) (w3.heap.size + 1 + 1) vb read lost mark j (putsT (ds.take j)) (aheadC ds j)) (fun i _ => ds.length - (intOf i).toNat)
  case atStart => exact ⟨0, rfl, Nat.zero_le _, L0.out⟩
  case round =>
    clear L0 q2
    obtain ⟨j, rfl, hj, hI⟩ := hrel
    have L := hide hI
    clear hI
    by_cases hlt : j < ds.length
    · obtain ⟨g, rfl, hg, hcap, c0, c1, c2, c3⟩ := (HR.out.below L.out.bel (Nat.le_refl _)).at hlt
      have hmem : ds[j]! ∈ ds := by rw [getElem!_pos ds j hlt]; exact List.getElem_mem hlt
      have Z := (Below.refl _ wr).alloc (Nat.le_refl _) (.cells #[.string ds[j]!.t, .string ds[j]!.r, .string ds[j]!.s, .string ds[j]!.v] 42)
      have PT := hide (put1_any w _ _ _ _ _ _ _ _ j _ (aheadC ds j) ds[j]! (L.out.still Z) (ahead_lt HO.out HRR.out hlt) (HRR.out _ hmem) (HBR.out _ hmem) (by omega))
      have HT := hide (putsT_snoc (ds.take j) ds[j]!)
      have HTK := hide (take_snoc1 ds j hlt)
      have HAN := hide (aheadC_next ds j)
      have i1 : (j : Int) < (ds.length : Int) := by omega
      clear Z hmem
      have eg : ∀ args w, (callFunc 61 args).run Tryz.prog w = .ok (.enter 61 args) w := enters_of Tryz.func61 (by kernel_rfl) rfl
      generalize ds[j]! = c at c0 c1 c2 c3 PT HT HTK HAN
      go_wp2_with (go_at_fn 61; (with_reducible refine PT.out.mono ?_); rintro y w7 ⟨rfl, hL7⟩; have L7 := hide hL7; clear hL7)
      exact ⟨⟨j + 1, by go_num, by omega, by rw [HTK.out, HT.out, HAN.out]; exact L7.out⟩, by simp [intOf]; omega⟩
    · have ej : j = ds.length := by omega
      subst ej
      rw [List.take_length, putsT_eq HO.out HRR.out] at L
      have pb0 : wr.cell? ⟨w3.heap.size + 1, 0, none⟩ = some (.pointer (some ⟨w3.heap.size, 0, none⟩)) := L.out.box.cell 0
      go_wp2
      go_ret2
      obtain ⟨mt, hT, hm⟩ := L.out.tab
      exact ⟨w3.heap.size, mt, rfl, hT, hs3, hm, L.out.bel⟩
end Go.Proofs.YtkbaalenbpgheaaGreatDoor

/- Who goes on goes on: the law's own walk. -/
namespace Go.Proofs.YtkbaalenbpgheaaGreatDoor
open Go.RowKit Go.Sort
attribute [local go_sem ↓] Go.wp_at_zero Go.wp_at_succ
set_option linter.unusedSectionVars false
variable [Inhabited Cl] [Inhabited Ev]
theorem Rl.save {w : World} {Br B rb : Nat} {st : Hst} {n : Nat} (h : Rl w Br B rb st n) (hn : n ≤ 100) :
    Calls Tryz.prog 30 #[.pointer (some ⟨rb, 0, none⟩)] w fun x w' => ∃ p c ds, x = .returned (.agg #[.int .i64 (n : Int), .string (headR (st.rs.take n)), .slice p ds.length c, .int .i64 ((lostN st.ok n : Nat) : Int)]) ∧ InOrd (lateT st.ok n) ds ∧ ds.length ≤ n ∧ RowC w' w.heap.size (.slice p ds.length c) ds ∧ Below w.heap.size w w' := by
  obtain ⟨mr, nt, mark, hT, h1, h2, h4⟩ := h.rd
  refine (save_any w rb B n (lostN st.ok n) mark mr nt (lateT st.ok n) hT (by omega)).mono ?_
  rintro x w' ⟨u, ds, rfl, ho, hl, hr, hb⟩
  obtain ⟨p, c, rfl⟩ := hr.len
  exact ⟨p, c, ds, by rw [h2], ho, by omega, hr, hb⟩
theorem Sv.start {w0 w w1 : World} {B Br rb n : Nat} {st : Hst} {u : Value} {ds : List Cl} (hR : Rl w Br B rb st n) (hBr : B ≤ Br) (S : ∃ mt mv v, Src B w (B + 2) (B + 1) B mt mv v st.ok.length st.ok.length secB st.σ st.τ st.rs ∧ ∀ j ∈ ownS (B + 2) (B + 1) B mt mv v, j < Br) (hb : Below w.heap.size w w1) (hr : RowC w1 w.heap.size u ds) (hbel : Below w0.heap.size w0 w) (hn : n ≤ 100) :
    Sv w0 (w1.alloc (.cells #[.int .i64 (n : Int), .string (headR (st.rs.take n)), u, .int .i64 ((lostN st.ok n : Nat) : Int)] 67)) B rb w1.heap.size n (lostN st.ok n) (lateT st.ok n) (headR (st.rs.take n)) u ds st := by
  obtain ⟨mr, nt, mark, hT, h1, h2, h4⟩ := hR.rd
  obtain ⟨mt, mv, v, hS, ho⟩ := S
  have z := (Below.refl _ w1).alloc (Nat.le_refl _) (.cells #[.int .i64 (n : Int), .string (headR (st.rs.take n)), u, .int .i64 ((lostN st.ok n : Nat) : Int)] 67)
  have hlt := hT.row.lt
  have hlow := hR.low
  refine ⟨⟨mt, mv, v, mr, nt, mark, (hS.still hb).still z, (hT.below hb).below z, by omega, h2, fun m e => ⟨fun hm => ?_, ?_⟩, fun g hg hm => ?_⟩, HasR.new w1 67 _, (hr.mono (by omega)).below z (Nat.le_refl _), by omega, (hbel.trans (hb.mono hbel.size)).trans (z.mono (hbel.trans (hb.mono hbel.size)).size)⟩
  · have := ho m hm
    have := h4 m e
    omega
  · have := h4 m e
    omega
  · have := ho g hm
    have := (hr.own hg).1
    omega
theorem Tw.start {w0 w1 w2 w3 : World} {B base rb xb sb k n0 nx : Nat} {τ0 : Tab} {hd : ByteArray} {u vf : Value} {ds : List Cl} {st : Hst} {mx : Option Nat} (h : Sv w0 w1 B rb sb k n0 τ0 hd u ds st) (hb2 : Below w1.heap.size w1 w2) (hX : TabV w2 xb 115 #[.pointer (some ⟨B, 0, none⟩), .int .i64 (k : Int), .string hd, .int .i64 (n0 : Int)] mx nx τ0) (hxl : w1.heap.size ≤ xb) (hml : ∀ m, mx = some m → w1.heap.size ≤ m) (hnx : nx ≤ 100) (hb3 : Below w2.heap.size w2 w3) (hf : w3.ownsRow base 30 5 vf st.rs.length (recsL st.rs)) (hhd : hd = headR (st.rs.take k)) : Tw w0 w3 B base k n0 τ0 st vf rb 0 xb 0 := by
  obtain ⟨mt, mv, v, mr, nr, mark, hS, hT, h1, h2, h4, h5⟩ := h.both
  have hlt := hT.row.lt
  have hB := hS.base
  have hbl := h.bel
  have e0 : markAt (k + 0) hd = headR (st.rs.take (k + 0)) := by
    rw [Nat.add_zero, ← hhd]
    unfold markAt
    split
    · rename_i h0
      rw [hhd, h0, List.take_zero]
      rfl
    · rfl
  refine ⟨⟨mt, mv, v, mr, nr, mark, mx, nx, hd, (hS.still hb2).still hb3, (hT.below hb2).below hb3, hX.below hb3, by omega, by omega, by rw [Nat.add_zero, h2, ← hhd], e0, fun m e => ⟨(h4 m e).1, (h4 m e).2, fun ex => ?_⟩, fun m e => ⟨fun hm => ?_, ?_, fun ex => ?_⟩⟩, by omega, hf, h.lowR, by omega, (hbl.trans (hb2.mono hbl.size)).trans (hb3.mono (hbl.trans (hb2.mono hbl.size)).size)⟩
  · obtain ⟨D, o, _⟩ := hT.held m e
    have := o.lt
    have := hml m ex
    omega
  · have := hS.oldO m hm
    have := hml m e
    omega
  · have := hml m e
    omega
  · obtain ⟨D, o, _⟩ := hT.held m ex
    have := o.lt
    have := hml m e
    omega
/-- The first of them reads the record at its place; then the second. -/
theorem Tw.next {w0 w : World} {B base k n0 : Nat} {τ0 : Tab} {st : Hst} {vf : Value} {rb jr xb jx : Nat} (h : Tw w0 w B base k n0 τ0 st vf rb jr xb jx) (hw : w0.heap.size ≤ B) (hd : Did secB st) (T : Tabs w) (h3 : 3 < B) (hn : st.ok.length < 100) (hn0 : n0 ≤ 100) (i : Nat) (hi : i = k + jr) (hk : i < st.ok.length) (hbr : Brief (st.ok.getD i ev0)) :
    Calls Tryz.prog 32 #[.pointer (some ⟨rb, 0, none⟩), .agg #[.int .i64 ((st.rs.getD i recZ).q : Int), .string (st.rs.getD i recZ).s, .int .i64 ((st.rs.getD i recZ).g : Int), .string (st.rs.getD i recZ).p, .string (st.rs.getD i recZ).d]] w fun x w' => x = .returned .nilIface ∧ Tw w0 w' B base k n0 τ0 st vf rb (jr + 1) xb jx := by
  subst hi
  exact h.read hw hd T h3 hn hn0 hk hbr
theorem Tw.nextX {w0 w : World} {B base k n0 : Nat} {τ0 : Tab} {st : Hst} {vf : Value} {rb jr xb jx : Nat} (h : Tw w0 w B base k n0 τ0 st vf rb jr xb jx) (hw : w0.heap.size ≤ B) (hd : Did secB st) (T : Tabs w) (h3 : 3 < B) (hn : st.ok.length < 100) (hn0 : n0 ≤ 100) (i : Nat) (hi : i = k + jx) (hk : i < st.ok.length) (hbr : Brief (st.ok.getD i ev0)) :
    Calls Tryz.prog 32 #[.pointer (some ⟨xb, 0, none⟩), .agg #[.int .i64 ((st.rs.getD i recZ).q : Int), .string (st.rs.getD i recZ).s, .int .i64 ((st.rs.getD i recZ).g : Int), .string (st.rs.getD i recZ).p, .string (st.rs.getD i recZ).d]] w fun x w' => x = .returned .nilIface ∧ Tw w0 w' B base k n0 τ0 st vf rb jr xb (jx + 1) := by
  subst hi
  exact (h.swap.read hw hd T h3 hn hn0 hk hbr).mono (fun x w' hx => ⟨hx.1, hx.2.swap⟩)
theorem Tw.losts {w0 w : World} {B base k n0 : Nat} {τ0 : Tab} {st : Hst} {vf : Value} {rb j xb : Nat} (h : Tw w0 w B base k n0 τ0 st vf rb j xb j) : ∃ z : Nat, (Calls Tryz.prog 34 #[.pointer (some ⟨rb, 0, none⟩)] w fun x w' => x = .returned (.int .i64 (z : Int)) ∧ w' = w) ∧ (Calls Tryz.prog 34 #[.pointer (some ⟨xb, 0, none⟩)] w fun x w' => x = .returned (.int .i64 (z : Int)) ∧ w' = w) := ⟨_, h.lost, h.swap.lost⟩
theorem Tw.ats {w0 w : World} {B base k n0 : Nat} {τ0 : Tab} {st : Hst} {vf : Value} {rb jr xb jx : Nat} (h : Tw w0 w B base k n0 τ0 st vf rb jr xb jx) (n : Nat) (hn : n = k + jr) : Calls Tryz.prog 35 #[.pointer (some ⟨rb, 0, none⟩)] w fun x w' => x = .returned (.tuple #[.int .i64 (n : Int), .string (headR (st.rs.take n))]) ∧ Below w.heap.size w w' := by
  subst hn
  exact h.at
theorem hist_grows {sec : ByteArray} : ∀ (es : List Ev) (s : Hst), ∃ mo mr, (hist sec es s).ok = s.ok ++ mo ∧ (hist sec es s).rs = s.rs ++ mr
  | [], s => ⟨[], [], by simp [hist], by simp [hist]⟩
  | e :: es, s => by
    obtain ⟨mo, mr, h1, h2⟩ := hist_grows (sec := sec) es (hstep sec s e)
    have e1 : hist sec (e :: es) s = hist sec es (hstep sec s e) := rfl
    rw [e1, h1, h2]
    unfold hstep
    split
    · exact ⟨e :: mo, tellR sec s.σ s.rs e :: mr, by simp, by simp⟩
    · exact ⟨mo, mr, rfl, rfl⟩
set_option maxRecDepth 100000 in
set_option maxHeartbeats 16000000 in
theorem saves_any (v : Value) (es : List Ev) (v2 : Value) (fs : List Ev) (a : Int) (w : World) (T : Tabs w) (hv : EvRow w v es) (hv2 : EvRow w v2 fs) :
    Calls Tryz.prog 4 #[v, v2, .int .i64 a] w fun x w' => x = .returned (.bool true) ∧ Below w.heap.size w w' := by
  have F := hide (few_any v es w hv)
  have G := hide (fun wx (hb : Below w.heap.size w wx) => few_any v2 fs wx (hv2.turned hb (Nat.le_refl _)))
  have TK := T.k.lt
  have TT := hide T
  have HV := hide hv
  have HW := hide hv2
  obtain ⟨ao, cap, rfl⟩ := hv.slice
  obtain ⟨bo, dap, rfl⟩ := hv2.slice
  clear hv T hv2
  cases hf : fewB es
  · rw [hf] at F
    go_enter Tryz.func4, Tryz.ntmps4
    go_wp2_with (go_at_call 6; (with_reducible refine F.out.mono ?_); rintro x w1 ⟨rfl, hb1⟩)
    go_ret
    exact ⟨rfl, hb1⟩
  rw [hf] at F
  cases hg : fewB fs
  · rw [hg] at G
    go_enter Tryz.func4, Tryz.ntmps4
    go_wp2_with (first
      | (go_at_call 6; (with_reducible refine F.out.mono ?_); rintro x w1 ⟨rfl, hb1⟩)
      | (go_at_call 6; (with_reducible refine (G.out _ hb1).mono ?_); rintro x w2 ⟨rfl, hb2⟩))
    go_ret
    exact ⟨rfl, hb1.trans (hb2.mono hb1.size)⟩
  rw [hg] at G
  obtain ⟨h30, hbr⟩ := few_brief hf
  obtain ⟨k30, kbr⟩ := few_brief hg
  have BR := hide hbr
  have BF := hide kbr
  clear hf hbr hg kbr
  have hps := ptrS_nil
  have hpr := ptrR_nil
  have hne := nilNe
  have hDid := hide (Did.hist (sec := secB) es Did.none)
  have hfew := hist_few (sec := secB) es hst0
  have hf0 : hst0.ok.length = 0 := rfl
  have BRO := hide (fun e (he : e ∈ (hist secB es hst0).ok) => BR.out e (by rcases hist_sub (sec := secB) es hst0 e he with h | h; (simp [hst0] at h); (exact h)))
  have DA := hide (fun wx (hb : Below w.heap.size w wx) => done_any (.slice ao es.length cap) es wx (TT.out.below hb TK) (HV.out.turned hb (Nat.le_refl _)) (by omega) BR.out)
  generalize hist secB es hst0 = st at hDid hfew DA BRO
  have hok : st.ok.length ≤ 30 := by omega
  have HRL := hide hDid.out.recs.1
  clear hfew hf0
  have hwr : IntKind.i64.wrap ((st.ok.length : Int) + 1) = (st.ok.length : Int) + 1 := by rw [IntKind.wrap_i64]; omega
  have PK0 := fun wx => pick_any a (st.ok.length + 1) (by omega) (by omega) wx
  rw [show ((st.ok.length + 1 : Nat) : Int) = (st.ok.length : Int) + 1 by omega] at PK0
  have PK := hide PK0
  clear PK0
  go_enter Tryz.func4, Tryz.ntmps4
  go_upto_region 10 with (first
    | (go_at_call 6; (with_reducible refine F.out.mono ?_); rintro x w1 ⟨rfl, hb1⟩; have B1 := hide hb1; clear hb1)
    | (go_at_call 6; (with_reducible refine (G.out _ B1.out).mono ?_); rintro x w2 ⟨rfl, hb2⟩
       have B2 := hide (B1.out.trans (hb2.mono B1.out.size))
       have F2 := hide (fed_any w2 (TT.out.below B2.out TK))
       clear hb2)
    | (go_at_call 7; (with_reducible refine F2.out.mono ?_); rintro x w3 ⟨rfl, hb2⟩
       have B3 := hide (B2.out.trans (hb2.mono B2.out.size))
       have F3 := hide (applied_any w3)
       clear hb2)
    | (go_at_call 8; (with_reducible refine F3.out.mono ?_); rintro x w4 ⟨rfl, hb3⟩
       have B4 := hide (B3.out.trans (hb3.mono B3.out.size))
       clear hb3)
    | (go_at_call 9; (with_reducible refine (DA.out _ B4.out).mono ?_); rintro x w5 ⟨vok, vrows, vals, rfl, hD, hvl, hb5⟩
       obtain ⟨mt, mv, vv, hS5, _⟩ := hD.src
       have B5 := hide (B4.out.trans (hb5.mono B4.out.size))
       have S5 := hide hS5
       have FE := hide (srcFeed_any _ w5 _ _ _ _ _ _ _ _ _ _ _ _ hS5 (by rw [HRL.out]; omega))
       clear hD hvl hb5 hS5)
    | (go_at_call 13; (with_reducible refine FE.out.mono ?_); rintro x w6 ⟨vf, rfl, hr6, hb6⟩
       rw [HRL.out] at hr6
       have B6 := hide (B5.out.trans (hb6.mono B5.out.size))
       have S6 := hide (S5.out.still hb6)
       have FR := hide hr6
       have hcf : ∃ pf cf, vf = .slice pf st.ok.length cf ∧ st.ok.length ≤ cf := by
         rcases hr6.2 with ⟨e1, e0⟩ | ⟨g, cap', cur, e1, _, _, a1, _⟩
         · exact ⟨none, 0, by rw [e1, e0], by omega⟩
         · exact ⟨_, _, e1, a1⟩
       obtain ⟨pf, cf, rfl, hcf⟩ := hcf
       clear hr6 hb6)
    | (go_at_call 28; (with_reducible refine (PK.out _).mono ?_); rintro x w7 ⟨c, hc, rfl, hw7⟩; obtain rfl := hw7.symm))
  clear F G DA F2 F3 FE PK
  have hB4 := B4.out.size
  have hl6 := S6.out.oldO
  have SD := hide (S6.out.still (Below.refl _ w6).drew)
  have FD := hide (ownsRow_below FR.out (Below.refl _ w6).drew)
  have VD := hide (srcVault_any _ w6.drew _ _ _ _ _ _ _ _ _ _ _ _ SD.out)
  have BD := hide (B6.out.trans ((Below.refl _ w6).drew.mono B6.out.size))
  have FO := hide (follow_any w6.drew w4.heap.size _ c cf pf st hDid.out ⟨_, _, _, SD.out⟩ (TT.out.below BD.out TK) (by omega) (by omega) FD.out BRO.out)
  have q2 : (c : Int) ≤ (cf : Int) := by omega
  have HL6 := hide hl6
  have hcl : c ≤ st.ok.length := by omega
  clear hl6 hc hwr
  go_cut [12, 13] (fun s12 s13 wx => ∃ rb : Nat, s12 = .pointer (some ⟨rb, 0, none⟩) ∧ s13 = .bool true ∧ Rl wx w6.heap.size w4.heap.size rb st c ∧ Below w6.heap.size w6 wx)
  case first =>
    go_region_with (first
      | (go_at_call 20; (with_reducible refine VD.out.mono ?_); rintro x w7 ⟨rfl, hw7⟩; obtain rfl := hw7.symm)
      | (go_at_call 29; (with_reducible refine FO.out.mono ?_); rintro x w8 ⟨rb, rfl, hR8, hb8⟩; have R8 := hide hR8; have B8 := hide ((Below.refl w6.heap.size w6).drew.trans (hb8.mono (Below.refl w6.heap.size w6).drew.size)); clear hR8 hb8))
    all_goals
      go_wp2
      go_meet
      exact ⟨rb, rfl, rfl, R8.out, B8.out⟩
  case rest =>
    clear VD FO SD FD BD q2 hcf
    obtain ⟨rb, rfl, rfl, hR, hbc⟩ := hcut
    have RR := hide hR
    have BC := hide hbc
    have SC := hide (S6.out.still hbc)
    have BW := hide (B6.out.trans (hbc.mono B6.out.size))
    have SV := hide (hR.save (by omega))
    clear hR hbc
    have hs6 := S6.out.base
    go_wp2_with (
      go_at_call 30; (with_reducible refine SV.out.mono ?_); rintro x w9 ⟨ps, cs, ds, rfl, ho, hl, hr, hb⟩
      have O9 := hide ho
      have S9 := hide (Sv.start (w0 := w) RR.out hs6 ⟨_, _, _, SC.out, HL6.out⟩ hb hr BW.out (by omega))
      clear ho hr hb)
    generalize w9.alloc (.cells #[.int .i64 (c : Int), .string (headR (st.rs.take c)), .slice ps ds.length cs, .int .i64 ((lostN st.ok c : Nat) : Int)] 67) = w10 at S9 ⊢
    have hln := lostN_le st.ok c
    have HDS := hide (Did.hist (sec := secB) fs hDid.out)
    have hm0 := hist_few (sec := secB) fs st
    have HMO := hide (hist_grows (sec := secB) fs st)
    clear RR SC BW SV S6 B6 FR HL6 B4 B5 S5 B1 B2 B3 BC
    go_loopw [15] (fun i wr => ∃ j : Nat, i = .int .i64 j ∧ j ≤ fs.length ∧ Sv w wr w4.heap.size rb w9.heap.size c (lostN st.ok c) (lateT st.ok c) (headR (st.rs.take c)) (.slice ps ds.length cs) ds (hist secB (fs.take j) st)) (fun i _ => fs.length - (intOf i).toNat)
    case atStart => exact ⟨0, rfl, Nat.zero_le _, S9.out⟩
    case round =>
      clear S9
      obtain ⟨j, rfl, hj, hI⟩ := hrel
      have L := hide hI
      clear hI
      by_cases hlt : j < fs.length
      · have hfew := hist_few (sec := secB) (fs.take j) st
        rw [List.length_take] at hfew
        have hDj := hide (Did.hist (sec := secB) (fs.take j) hDid.out)
        have HS := hide (hist_take (sec := secB) (s := st) hlt)
        rw [getD_eq! hlt] at HS
        obtain ⟨b, off, rfl, hcap, hc⟩ := HW.out.spot hlt
        have hbrf : Brief fs[j]! := BF.out _ (by rw [getElem!_pos fs j hlt]; exact List.getElem_mem hlt)
        have DO := hide (L.out.step hB4 hDj.out (TT.out.below L.out.bel TK) (by omega) (by omega) fs[j]! hbrf)
        obtain ⟨c0, c1, c2, c3, c4, hlb⟩ := evs_at L.out.bel (Nat.le_refl _) hc
        have i1 : (j : Int) < (fs.length : Int) := by omega
        clear hc hbrf
        generalize fs[j]! = e at DO HS c0 c1 c2 c3 c4
        generalize hist secB (fs.take j) st = sj at L HS DO hDj hfew
        go_wp2_with (
          go_at_call 10; (with_reducible refine DO.out.mono ?_); rintro x w12 ⟨⟨va, vb, rfl⟩, hL2⟩
          have L2 := hide hL2
          clear hL2)
        exact ⟨⟨j + 1, by go_num, by omega, by rw [HS.out]; exact L2.out⟩, by simp [intOf]; omega⟩
      · have ej : j = fs.length := by omega
        subst ej
        rw [List.take_length] at L
        obtain ⟨mo, mr, hmo, hmr⟩ := HMO.out
        have HM := hide hmo
        have HE := hide (fun hk => goes_end (s := st) HDS.out (k := c) hk hmo)
        have hhd : headR (st.rs.take c) = headR ((hist secB fs st).rs.take c) := by
          rw [hmr, List.take_append_of_le_length (by rw [HRL.out]; omega)]
        have HHD := hide hhd
        have hlen : st.ok.length ≤ (hist secB fs st).ok.length := by rw [hmo, List.length_append]; omega
        have hall : ∀ e ∈ (hist secB fs st).ok, Brief e := fun e he => by
          rcases hist_sub (sec := secB) fs st e he with h | h
          · exact BRO.out e h
          · exact BF.out e h
        have BRA := hide hall
        clear hmo hmr hhd hall
        generalize hist secB fs st = s2 at L HE HHD hlen BRA HDS hm0 HM
        have hs2 : s2.ok.length ≤ 60 := by omega
        have HRL2 := hide HDS.out.recs.1
        have VD := hide ((L.out.still (Below.refl _ wr).drew).vault)
        have LD := hide (load_any wr.drew w4.heap.size c (lostN st.ok c) (headR (st.rs.take c)) ps cs w4.heap.size ds (lateT st.ok c) ((L.out.still (Below.refl _ wr).drew).row) O9.out (fun d hd => (late_put ((O9.out.2 d).1 hd)).2) (fun d hd => BRO.out _ (late_put ((O9.out.2 d).1 hd)).1) (by omega) hln (headR_size _) (fun e => ⟨by rw [e, List.take_zero]; rfl, by omega⟩))
        have s0 : wr.drew.cell? ⟨w9.heap.size, 0, none⟩ = some (.int .i64 (c : Int)) := L.out.save.cell 0
        have s1 : wr.drew.cell? ⟨w9.heap.size, 1, none⟩ = some (.string (headR (st.rs.take c))) := L.out.save.cell 1
        have s2' : wr.drew.cell? ⟨w9.heap.size, 2, none⟩ = some (.slice ps ds.length cs) := L.out.save.cell 2
        have s3 : wr.drew.cell? ⟨w9.heap.size, 3, none⟩ = some (.int .i64 ((lostN st.ok c : Nat) : Int)) := L.out.save.cell 3
        go_upto_region 18 with fail
        go_cut [16, 17] (fun s16 s17 wx => ∃ xb mx, s16 = .pointer (some ⟨xb, 0, none⟩) ∧ s17 = .nilIface ∧ TabV wx xb 115 #[.pointer (some ⟨w4.heap.size, 0, none⟩), .int .i64 (c : Int), .string (headR (st.rs.take c)), .int .i64 ((lostN st.ok c : Nat) : Int)] mx ds.length (lateT st.ok c) ∧ wr.heap.size ≤ xb ∧ (∀ m, mx = some m → wr.heap.size ≤ m) ∧ Below wr.heap.size wr wx)
        case first =>
          go_region_with (first
            | (go_at_call 20; (with_reducible refine VD.out.mono ?_); rintro x w12 ⟨rfl, hw12⟩; obtain rfl := hw12.symm)
            | (go_at_call 31; (with_reducible refine LD.out.mono ?_); rintro x w13 ⟨xb, mx, rfl, hX, hxl, hml, hb13⟩; have X13 := hide hX; have B13 := hide ((Below.refl wr.heap.size wr).drew.trans (hb13.mono (Below.refl wr.heap.size wr).drew.size)); clear hX hb13))
          all_goals
            go_wp2
            go_meet
            exact ⟨xb, mx, rfl, rfl, X13.out, hxl, hml, B13.out⟩
        case rest =>
          clear VD LD s0 s1 s2' s3
          obtain ⟨xb, mx, rfl, rfl, hX, hxl, hml, hbc2⟩ := hcut
          have XX := hide hX
          have BB := hide hbc2
          have FE : Hid (Calls Tryz.prog 13 #[.pointer (some ⟨w4.heap.size + 2, 0, none⟩)] wc fun x w' => ∃ u, x = .returned u ∧ w'.ownsRow wc.heap.size 30 5 u s2.rs.length (recsL s2.rs) ∧ Below wc.heap.size wc w') := hide (by
            obtain ⟨mt, mv, v, mr, nr, mark, hS, _⟩ := (L.out.still hbc2).both
            exact srcFeed_any _ _ _ _ _ _ _ _ _ _ _ _ _ _ hS (by rw [HRL2.out]; omega))
          have HUP := hide (fun (w14 : World) (uf : Value) (hf : w14.ownsRow wc.heap.size 30 5 uf s2.rs.length (recsL s2.rs)) (hb : Below wc.heap.size wc w14) => Tw.start L.out BB.out XX.out hxl hml (by omega) hb hf HHD.out)
          go_wp2_with (
            go_at_call 13; (with_reducible refine FE.out.mono ?_); rintro x w14 ⟨uf, rfl, hr14, hb14⟩
            obtain ⟨pf2, cf2, rfl⟩ := ownsRow_slice hr14
            have T0 := hide (HUP.out _ _ hr14 hb14)
            clear hr14 hb14)
          clear HUP FE XX BB L HHD hml hX hbc2 O9 HW
          go_loopw [18] (fun i wq => ∃ n j : Nat, i = .int .i64 (n : Int) ∧ n = c + j ∧ n ≤ s2.ok.length ∧ Tw w wq w4.heap.size wc.heap.size c (lostN st.ok c) (lateT st.ok c) s2 (.slice pf2 s2.rs.length cf2) rb j xb j) (fun i _ => s2.ok.length - (intOf i).toNat)
          case atStart => exact ⟨c, 0, rfl, rfl, by omega, T0.out⟩
          case round =>
            clear T0
            obtain ⟨n, j, rfl, hn, hle, hI⟩ := hrel
            have L := hide hI
            have HN := hide hn
            clear hI
            by_cases hlt : n < s2.ok.length
            · have hlt2 : n < s2.rs.length := by have := HRL2.out; omega
              obtain ⟨g, rfl, _⟩ := block_of L.out.feed (by omega)
              have hbr := BRA.out _ (getD_mem (d := ev0) hlt)
              have RD := hide (L.out.next hB4 HDS.out (TT.out.below L.out.bel TK) (by omega) (by omega) (by omega) n hn hlt hbr)
              have R2 := hide (fun wx (h : Tw w wx w4.heap.size wc.heap.size c (lostN st.ok c) (lateT st.ok c) s2 (.slice (some ⟨g, 0, none⟩) s2.rs.length cf2) rb (j + 1) xb j) => h.nextX hB4 HDS.out (TT.out.below h.bel TK) (by omega) (by omega) (by omega) n hn hlt hbr)
              have FC := hide (fun wx (jr jx : Nat) (h : Tw w wx w4.heap.size wc.heap.size c (lostN st.ok c) (lateT st.ok c) s2 (.slice (some ⟨g, 0, none⟩) s2.rs.length cf2) rb jr xb jx) => recs_c h.feed rfl hlt2)
              have i1 : (n : Int) < (s2.rs.length : Int) := by omega
              have hj60 : j + 1 ≤ 100 := by omega
              clear hbr hn
              generalize s2.rs.getD n recZ = r at FC RD R2
              obtain ⟨f0, f1, f2, f3, f4, hgf⟩ := FC.out _ _ _ L.out
              go_wp2_with (first
                | (go_at_call 32; (with_reducible refine RD.out.mono ?_); rintro x w20 ⟨rfl, hT⟩
                   have T20 := hide hT
                   obtain ⟨g0, g1, g2, g3, g4, hgg⟩ := FC.out _ _ _ hT
                   have RX := hide (R2.out _ hT)
                   clear hT)
                | (go_at_call 32; (with_reducible refine RX.out.mono ?_); rintro x w21 ⟨rfl, hT⟩
                   have T21 := hide hT
                   have C21 := hide (hT.cells hj60)
                   clear hT)
                | (go_at_call 33; (with_reducible refine C21.out.mono ?_); rintro x w22 ⟨u, dz, rfl, ho, hl2, hr, hb⟩
                   have T22 := hide (T21.out.still hb)
                   have O22 := hide ho
                   have W22 := hide hr
                   have C22 := hide (T22.out.swap.cells hj60)
                   clear ho hr hb)
                | (go_at_call 33; (with_reducible refine C22.out.mono ?_); rintro x w23 ⟨u2, dz2, rfl, ho, hl3, hr, hb⟩
                   obtain rfl := ho.eq O22.out
                   have T23 := hide (T22.out.still hb)
                   have E23 := hide (equal_any _ _ _ _ dz2 w23 (W22.out.below hb (Nat.le_refl _)) hr (by omega))
                   clear ho hr hb)
                | (go_at_call 15; (with_reducible refine E23.out.mono ?_); rintro x w24 ⟨rfl, hb⟩
                   have T24 := hide (T23.out.still hb)
                   obtain ⟨z, hz1, hz2⟩ := T24.out.losts
                   have X24 := hide hz1
                   have Y24 := hide hz2
                   clear hb hz1 hz2)
                | (go_at_call 34; (with_reducible refine X24.out.mono ?_); rintro x w25 ⟨rfl, hw25⟩; obtain rfl := hw25.symm)
                | (go_at_call 34; (with_reducible refine Y24.out.mono ?_); rintro x w26 ⟨rfl, hw26⟩; obtain rfl := hw26.symm))
              exact ⟨⟨n + 1, j + 1, by go_num, by have := HN.out; omega, by omega, T24.out⟩, by simp [intOf]; omega⟩
            · have en : n = s2.ok.length := by omega
              have hj2 : j = s2.ok.length - c := by omega
              have A1 := hide (L.out.ats n hn)
              have i2 : ¬ (n : Int) < (s2.rs.length : Int) := by have := HRL2.out; omega
              have HT := HE.out hcl
              rw [← hj2] at HT
              have HTT := hide HT
              have A20 := fun wx (h : Tw w wx w4.heap.size wc.heap.size c (lostN st.ok c) (lateT st.ok c) s2 (.slice pf2 s2.rs.length cf2) rb j xb j) => h.swap.ats n hn
              have hsx : ((headR (s2.rs.take n)).toList == (headR (s2.rs.take n)).toList) = true := by simp
              generalize headR (s2.rs.take n) = hh at A1 A20 hsx
              have A2 := hide A20
              have hj100 : j ≤ 100 := by omega
              have hs100 : s2.ok.length < 100 := by omega
              clear HT A20 hn en hj2 hlt
              go_wp2_with (first
                | (go_at_call 35; (with_reducible refine A1.out.mono ?_); rintro x w20 ⟨rfl, hb⟩
                   have T20 := hide (L.out.still hb)
                   have AX := hide (A2.out _ T20.out)
                   clear hb)
                | (go_at_call 35; (with_reducible refine AX.out.mono ?_); rintro x w21 ⟨rfl, hb⟩
                   have T21 := hide (T20.out.still hb)
                   have C21 := hide (T21.out.swap.cells hj100)
                   clear hb)
                | (go_at_call 33; (with_reducible refine C21.out.mono ?_); rintro x w22 ⟨u, dz, rfl, ho, hl2, hr, hb⟩
                   have T22 := hide (T21.out.still hb)
                   rw [HTT.out] at ho
                   have O22 := hide ho
                   have W22 := hide hr
                   have C22 := hide (T22.out.scells hs100)
                   clear ho hr hb)
                | (go_at_call 16; (with_reducible refine C22.out.mono ?_); rintro x w23 ⟨u2, dz2, rfl, ho, hl3, hr, hb⟩
                   obtain rfl := ho.eq O22.out
                   have T23 := hide (T22.out.still hb)
                   have E23 := hide (equal_any _ _ _ _ dz2 w23 (W22.out.below hb (Nat.le_refl _)) hr (by omega))
                   clear ho hr hb)
                | (go_at_call 15; (with_reducible refine E23.out.mono ?_); rintro x w24 ⟨rfl, hb⟩
                   have T24 := hide (T23.out.still hb)
                   clear hb))
              go_ret
              exact ⟨rfl, T24.out.bel⟩
end Go.Proofs.YtkbaalenbpgheaaGreatDoor

namespace Go.Proofs.YtkbaalenbpgheaaGreatDoor
open Go.ChangeShapes Go.WideShapes Go.ChangeAt Go.RowKit
open Go.ChangeMaps (open_string shut_string)
set_option maxRecDepth 100000 in
theorem readerSaves_lifted (os : Os) (started : os.Started) (H : Type) (enc : TypeId × Value → H) :
    ReturnsInHanded {} Tryz.checked os 4 .any (fun w args => (Rows.readerSavesSpec.pre enc Tryz.prog Tryz.f4 [] false w args ∧ laidMetH Tryz.prog Rows.readerSavesRow.laid w) ∧ sizedMet enc Tryz.prog Tryz.f4 (OpenSpec.ofChange Rows.readerSavesSpec) false w args)
      (Rows.readerSavesSpec.post enc Tryz.prog Tryz.f4 false true false false) := by
  refine returns_listed started (by kernel_rfl) Tryz.func4
    (ChangeSpec.witness_shaped (enc := enc) (C := Tryz.checked) (os := os) (X := fun w _ => laidMetH Tryz.prog Rows.readerSavesRow.laid w) false (((World.holding Tryz.prog os ⟨#[], #[], []⟩).setCell ⟨0, 0, none⟩ (.iface 199 (.agg #[.pointer (some ⟨6, 32, none⟩)]))).layVars Tryz.prog dataL) #[.slice none 0 0, .slice none 0 0, .int .i64 0] 8 (World.layVars_os _ _ _)
      (World.shaped_of_ZipB (by kernel_rfl) (by kernel_rfl)) (by kernel_rfl) (by kernel_rfl) (by kernel_rfl)
      (laidMetH_of_parts (show laidMet Tryz.prog dataL _ from laidMet_on (w0 := (World.holding Tryz.prog os ⟨#[], #[], []⟩).setCell ⟨0, 0, none⟩ (.iface 199 (.agg #[.pointer (some ⟨6, 32, none⟩)]))) (by simp [World.memory, World.forCall, Input.heap]) (by kernel_rfl) (by kernel_rfl)) (by kernel_rfl))) ?_
  intro W base args ds gs before hval0 hW hsh hL
  have hval : ∀ (j : Nat) t v, Tryz.f4.params[j]? = some t → args[j]? = some v → Value.okWide Tryz.prog W .any base t v := hval0
  have hW' := hW
  obtain ⟨p, q, hA0, hV, rfl, hfz, hnd⟩ := hW
  have hA : DataW.TrodAll enc Tryz.prog W 0 (fun _ => true) true Tryz.f4.params.toList args.toList ds p := hA0
  rw [Tryz.params4] at hA hval
  obtain ⟨v0, vs0, d0, ds0, p0, q0, hargs, rfl, rfl, h0, r0⟩ := trodAll_cons hA
  obtain ⟨v1, vs1, d1, ds1, p1, q1, rfl, rfl, rfl, h1, r1⟩ := trodAll_cons r0
  obtain ⟨v2, vs2, d2, ds2, p2, q2, rfl, rfl, rfl, h2, r2⟩ := trodAll_cons r1
  obtain ⟨rfl, rfl, rfl⟩ := trodAll_nil r2
  obtain rfl : args = #[v0, v1, v2] := by cases args; simp_all
  obtain ⟨rfl, rfl⟩ := trodVars_none hV
  letI : Inhabited Cl := ⟨cl0⟩
  letI : Inhabited Ev := ⟨ev0⟩
  obtain ⟨a0, len0, cap0, rfl⟩ := okWide_slice Tryz.underlying22 (hval 0 22 v0 rfl rfl)
  have k0 := h0
  have lt0 : ∀ x ∈ p0, x.block < W.heap.size := by obtain ⟨m, hm⟩ := k0; exact DataW.trod_lt m _ _ _ hm
  obtain ⟨es0, e0⟩ := evs_of h0
  obtain ⟨a1, len1, cap1, rfl⟩ := okWide_slice Tryz.underlying22 (hval 1 22 v1 rfl rfl)
  have k1 := h1
  have lt1 : ∀ x ∈ p1, x.block < W.heap.size := by obtain ⟨m, hm⟩ := k1; exact DataW.trod_lt m _ _ _ hm
  obtain ⟨es1, e1⟩ := evs_of h1
  obtain ⟨z2, rfl, rfl, rfl, hz2⟩ := open_int Tryz.underlying3 (hval 2 3 v2 rfl rfl) h2
  clear hA0 hval0
  simp only [List.append_nil] at hW'
  refine (saves_any _ es0 _ es1 z2 W (tabs_of hsh hL) e0 e1).mono fun x W' ⟨he, bel⟩ => ?_
  subst he
  exact ⟨_, rfl, _, _, _, [], _, [], hW', trodAll_mk1 (shut_bool Tryz.underlying4 _), (trodAll_cons_mk (Below.trod laidOut (by kernel_rfl) (of_decide_eq_true (by kernel_rfl)) k0 bel lt0) (trodAll_cons_mk (Below.trod laidOut (by kernel_rfl) (of_decide_eq_true (by kernel_rfl)) k1 bel lt1) (trodAll_cons_mk (shut_int Tryz.underlying3 hz2) (trodAll_mk0)))), rfl, bel.frame _, fun h => by cases h⟩
theorem readerSaves_row_holds : Rows.ReaderSavesSaid :=
  OpenClaim.holds_of_wide 4 Tryz.f4 rfl rfl rfl rfl rfl rfl rfl ⟨rfl, rfl, rfl, rfl, rfl⟩ rfl rfl rfl rfl rfl (by kernel_rfl) Tryz.func4 (by kernel_rfl)
    (of_decide_eq_true (by kernel_rfl)) (by unfold Func.isWrapper; first | (rw [if_pos (by decide +kernel)]; kernel_rfl) | (rw [if_neg (by decide +kernel)]; exact ⟨rfl, rfl⟩))
    (fun os started H enc _ => readerSaves_lifted os started H enc)
theorem readerSaves_holds : Rows.ReaderSavesCardSaid :=
  Claim7.holds_tied_plain_at .later [] [.data, .handle, .data, .data, .pinned] true (true, "6153f3fa1cc52b6b58dbce7bdb2ac9c642be6865b64697f94b25b0d1b64803a5") true
    readerSaves_row_holds (fun _ h => by cases h) (by kernel_rfl) (fun _ h => by cases h) readerSaves_row_tie rfl ⟨rfl, rfl⟩ (by kernel_rfl) rfl
    (fun f fn hf hfn => by
      obtain rfl : f = 4 := Option.some.inj ((show Tryz.prog.funcNamed Rows.readerSavesRow.func = some 4 by kernel_rfl).symm.trans hf) |>.symm
      obtain rfl : fn = Tryz.f4 := (Option.some.inj (Tryz.func4.symm.trans hfn)).symm
      exact ⟨by kernel_rfl, fun j t ht => by
        rw [Tryz.params4] at ht
        have hm : t ∈ [22, 22, 3] := by simpa using Array.mem_of_getElem? ht
        have hall : ([22, 22, 3].all fun u => !Tryz.prog.wantsStandIn u) = true := by kernel_rfl
        exact (show Tryz.prog.wantsStandIn t = false by simpa using List.all_eq_true.1 hall t hm)⟩)
    (by kernel_rfl)
end Go.Proofs.YtkbaalenbpgheaaGreatDoor
