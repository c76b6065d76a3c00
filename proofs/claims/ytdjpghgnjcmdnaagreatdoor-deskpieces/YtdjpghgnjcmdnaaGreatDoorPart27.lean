/- Texts of this proof, one behind the other. -/
import Derived.Shelf.SlicesE.Clone
import Derived.Test.YtdjpghgnjcmdnaaGreatDoorPart26
/- A fact that the laws begin with: what is told is opened, till its subject is forgotten. -/
namespace Go.Proofs.YtdjpghgnjcmdnaaGreatDoor
open Go.RowKit Go.Sort
attribute [local go_sem ↓] Go.wp_at_zero Go.wp_at_succ
set_option linter.unusedSectionVars false
/-- The tables that the program keeps. -/
structure Tabs (w : World) : Prop where
  k : TabK w
  l : TabL w
  m : TabM w
  e : TabE w
  n : 10 < w.heap.size
theorem Tabs.below {w w' : World} {B : Nat} (h : Tabs w) (hb : Below B w w') (hB : 10 < B) : Tabs w' :=
  ⟨h.k.below hb (by omega), h.l.below hb (by omega), h.m.below hb (by omega), h.e.below hb (by omega), Nat.lt_of_lt_of_le h.n hb.size⟩
/-- A feed and its vault, all of it at B and behind. -/
structure Fd (B : Nat) (w : World) (fb vb : Nat) (mv : Option Nat) (v : Value) (nv : Nat) (sec : ByteArray) (σ : Kept) (rs : List Rec) : Prop where
  feed : FeedV w fb vb v rs
  keys : ProgV w vb mv sec nv σ
  base : B ≤ w.heap.size
  lowF : B ≤ fb
  lowV : B ≤ vb
  lowM : ∀ m, mv = some m → B ≤ m
  lowG : ∀ g, v.ownBlock = some g → B ≤ g
theorem Fd.still {B : Nat} {w w' : World} {fb vb : Nat} {mv : Option Nat} {v : Value} {nv : Nat} {sec : ByteArray} {σ : Kept} {rs : List Rec} (h : Fd B w fb vb mv v nv sec σ rs) (k : Below w.heap.size w w') : Fd B w' fb vb mv v nv sec σ rs :=
  ⟨h.feed.below k, h.keys.below k, Nat.le_trans h.base k.size, h.lowF, h.lowV, h.lowM, h.lowG⟩
theorem Fd.lowL {B : Nat} {w : World} {fb vb : Nat} {mv : Option Nat} {v : Value} {nv : Nat} {sec : ByteArray} {σ : Kept} {rs : List Rec} (h : Fd B w fb vb mv v nv sec σ rs) : ∀ j ∈ fb :: vb :: (mv.toList ++ v.ownBlock.toList), B ≤ j := by
  intro j hj
  rcases List.mem_cons.1 hj with e | hj
  · rw [e]; exact h.lowF
  · rcases List.mem_cons.1 hj with e | hj
    · rw [e]; exact h.lowV
    · rcases List.mem_append.1 hj with hj | hj
      · exact h.lowM j (by simpa using hj)
      · exact h.lowG j (by simpa using hj)
theorem Fd.tell {B : Nat} {w : World} {fb vb : Nat} {mv : Option Nat} {v : Value} {nv : Nat} {sec : ByteArray} {σ : Kept} {rs : List Rec} (h : Fd B w fb vb mv v nv sec σ rs) (T : Tabs w) (hB : 10 < B) (e : Ev) (hr : rightB e = true) (hg : e.k = 3 → (σ e.s.data.toList).2 = true) (hp : sec.size ≤ 60) (hfit : ∀ r ∈ rs, Fit r) (hlen : rs.length < 100) (hn : nv < 1000) (hσ : ∀ l, (σ l).1 ≤ nv) :
    Calls Tryz.prog 78 #[.pointer (some ⟨fb, 0, none⟩), .agg #[.int .i64 e.k, .string e.s, .string e.t, .string e.r, .string e.v]] w fun x w' =>
      x = .returned (.tuple #[.agg (recA (tellR sec σ rs e)), .nilIface]) ∧ (∃ m v', Fd B w' fb vb (some m) v' (nv + 1) sec (tellK σ e) (rs ++ [tellR sec σ rs e]) ∧ (mv = some m ∨ (mv = none ∧ w.heap.size ≤ m)) ∧ (v'.ownBlock = v.ownBlock ∨ ∀ g, v'.ownBlock = some g → w.heap.size ≤ g)) ∧ Stirred (fb :: vb :: (mv.toList ++ v.ownBlock.toList)) w w' ∧ Below B w w' := by
  have hst : ∀ w', Stirred (vb :: mv.toList) w w' → Below B w w' := fun w' t => t.below h.base (fun j hj => h.lowL j (by rcases List.mem_cons.1 hj with e1 | e1 <;> simp [e1]))
  refine (tell_ok w fb vb v rs mv sec nv σ e h.feed h.keys hr hg hp hfit hlen hn hσ T.k T.l (fun w' t => T.k.below (hst w' t) (by omega))).mono ?_
  rintro x w' ⟨rfl, m, hpm, hmm, v', hfv, hvv, hss⟩
  have hb := hss.below h.base h.lowL
  refine ⟨rfl, ⟨m, v', ⟨hfv, hpm, Nat.le_trans h.base hb.size, h.lowF, h.lowV, fun m' e1 => ?_, fun g e1 => ?_⟩, hmm, hvv⟩, hss, hb⟩
  · cases e1
    rcases hmm with e2 | ⟨_, e2⟩
    · exact h.lowM _ e2
    · exact Nat.le_trans h.base e2
  · rcases hvv with e2 | e2
    · exact h.lowG g (by rw [← e2]; exact e1)
    · exact Nat.le_trans h.base (e2 g e1)
/-- The laws' own secret. -/
def secB : ByteArray := ⟨#[48, 49, 50, 51, 52, 53, 54, 55, 56, 57, 97, 98, 99, 100, 101, 102]⟩
theorem putR : rightB putE = true := by decide +kernel
theorem goneR : rightB goneE = true := by decide +kernel
def T1 : Rec := tellR secB kept0 [] putE
def K1 : Kept := tellK kept0 putE
def K2 : Kept := tellK K1 goneE
theorem T1_q : T1.q = 1 := rfl
theorem T1_s : T1.s = ⟨#[97, 110, 110]⟩ := rfl
theorem T1_g : T1.g = 1 := by decide +kernel
theorem T1_p : T1.p = noneB := rfl
theorem T1_d : T1.d = sealB (keyB secB T1.s T1.g) (nonceR T1) (withR T1) (textB putE) := rfl
theorem T1_size : T1.d.size = 29 := by rw [T1_d, sealB_size]; decide +kernel
theorem T1_fit : Fit T1 := ⟨by rw [T1_q]; decide, by rw [T1_g]; decide, by rw [T1_s]; decide, by rw [T1_p]; decide, by rw [T1_size]; decide⟩
theorem K1_ann : K1 T1.s.data.toList = (1, true) := by decide +kernel
theorem K2_ann : K2 T1.s.data.toList = (1, false) := by decide +kernel
theorem open1 {B : Nat} {w : World} {fb vb : Nat} {mv : Option Nat} {v : Value} {nv : Nat} {rs : List Rec} (h : Fd B w fb vb mv v nv secB K1 rs) (T : Tabs w) :
    Calls Tryz.prog 126 #[.pointer (some ⟨vb, 0, none⟩), .agg #[.int .i64 (T1.q : Int), .string T1.s, .int .i64 (T1.g : Int), .string T1.p, .string T1.d]] w fun x w' => x = .returned (.tuple #[.agg #[.int .i64 1, .string ⟨#[97, 110, 110]⟩, .string ⟨#[116]⟩, .string ⟨#[114]⟩, .string ⟨#[118]⟩], .nilIface]) ∧ Below w.heap.size w w' := by
  have hlt := T.k.lt
  have hltm := T.m.lt
  exact open_ok25 _ T1 putE w putR rfl ⟨(fun h => by cases h), (fun h => by rw [T1_g] at h; cases h)⟩ T.l (fun wx hb => T.m.below hb (by omega)) (fun wx hb =>
    unseal_there vb mv secB nv K1 T1 (textB putE) wx T1_fit (h.keys.below hb) (by rw [T1_g]; decide) (by rw [K1_ann, T1_g]) (by rw [K1_ann]) (by decide +kernel) (T.k.below hb hlt) T1_d)
theorem open2 {B : Nat} {w : World} {fb vb : Nat} {mv : Option Nat} {v : Value} {nv : Nat} {rs : List Rec} (h : Fd B w fb vb mv v nv secB K2 rs) :
    Calls Tryz.prog 126 #[.pointer (some ⟨vb, 0, none⟩), .agg #[.int .i64 (T1.q : Int), .string T1.s, .int .i64 (T1.g : Int), .string T1.p, .string T1.d]] w fun x w' => x = .returned (.tuple #[.agg #[.int .i64 0, .string ⟨#[]⟩, .string ⟨#[]⟩, .string ⟨#[]⟩, .string ⟨#[]⟩], .iface 25 (.int .i64 8)]) ∧ Below w.heap.size w w' :=
  open_err _ T1 8 ⟨#[]⟩ w (fun wx hb => unseal_lost vb mv secB nv K2 T1 wx T1_fit.s (h.keys.below hb) (by rw [T1_g]; decide) (by rw [K2_ann, T1_g]; decide) (by rw [K2_ann]; simp))
end Go.Proofs.YtdjpghgnjcmdnaaGreatDoor

/- Do of any short event: it happened, or an error is told and nothing is changed. -/
namespace Go.Proofs.YtdjpghgnjcmdnaaGreatDoor
open Go.RowKit Go.Sort
/-- An event that happens: it may be, it is not refused, and who is forgotten is known. -/
def doesB (σ : Kept) (τ : Tab) (e : Ev) : Bool := rightB e && (decide (refuseB τ e = 0) && (!decide (e.k = 3) || (σ e.s.data.toList).2))
theorem do_any (B : Nat) (w : World) (sb fb vb : Nat) (mt mv : Option Nat) (v : Value) (nt nv : Nat) (sec : ByteArray) (σ : Kept) (τ : Tab) (rs : List Rec) (e : Ev) (h : Src B w sb fb vb mt mv v nt nv sec σ τ rs) (he : Brief e) (hp : sec.size ≤ 60) (hlen : rs.length < 100) (hnv : nv < 1000) (hnt : nt < 1000) (T : Tabs w) (hB : 10 < B) :
    Calls Tryz.prog 43 #[.pointer (some ⟨sb, 0, none⟩), .agg #[.int .i64 e.k, .string e.s, .string e.t, .string e.r, .string e.v]] w fun x w' =>
      (doesB σ τ e = true ∧ x = .returned (.tuple #[.agg (recA (tellR sec σ rs e)), .nilIface]) ∧ (∃ mt' m v', Src B w' sb fb vb mt' (some m) v' (nt + 1) (nv + 1) sec (tellK σ e) (app e τ) (rs ++ [tellR sec σ rs e]) ∧ ∀ j ∈ ownS sb fb vb mt' (some m) v', j ∈ ownS sb fb vb mt mv v ∨ w.heap.size ≤ j) ∧ Stirred (ownS sb fb vb mt mv v) w w' ∧ Below B w w') ∨
      (doesB σ τ e = false ∧ (∃ n : Int, x = .returned (.tuple #[.agg #[.int .i64 0, .string ⟨#[]⟩, .int .i64 0, .string ⟨#[]⟩, .string ⟨#[]⟩], .iface 25 (.int .i64 n)])) ∧ Src B w' sb fb vb mt mv v nt nv sec σ τ rs ∧ Below w.heap.size w w') := by
  by_cases h0 : refuseB τ e = 0
  · cases hr : rightB e
    · refine (do_untold sb fb _ mt nt τ e 1 w he h.tab h0 (fun wx _ => tell_bad wx fb e hr)).mono ?_
      rintro x w' ⟨rfl, hb⟩
      exact .inr ⟨by unfold doesB; rw [hr]; rfl, ⟨_, rfl⟩, h.still hb, hb⟩
    · by_cases hk : e.k = 3 ∧ (σ e.s.data.toList).2 = false
      · refine (do_untold sb fb _ mt nt τ e 8 w he h.tab h0 (fun wx hb => tell_none wx fb vb v rs mv sec nv σ e (h.still hb).feed (h.still hb).keys hr hk.1 hk.2 h.fit hlen (T.k.below hb T.k.lt) (T.l.below hb T.l.lt))).mono ?_
        rintro x w' ⟨rfl, hb⟩
        exact .inr ⟨by unfold doesB; rw [hr, hk.2]; simp [hk.1], ⟨_, rfl⟩, h.still hb, hb⟩
      · have hg : e.k = 3 → (σ e.s.data.toList).2 = true := fun e3 => by
          cases hq : (σ e.s.data.toList).2
          · exact absurd ⟨e3, hq⟩ hk
          · rfl
        refine (do_ok B w sb fb vb mt mv v nt nv sec σ τ rs e h he hr h0 hg hp hlen hnv hnt T.l (fun w' hb => T.k.below hb (by omega))).mono ?_
        rintro x w' ⟨rfl, hs, hb⟩
        refine .inl ⟨?_, rfl, hs, hb, hb.below h.base h.lowO⟩
        unfold doesB
        rw [hr]
        by_cases e3 : e.k = 3
        · simp [h0, hg e3]
        · simp [h0, e3]
  · refine (do_refused sb _ _ mt nt τ e w he h.tab h0).mono ?_
    rintro x w' ⟨rfl, hb⟩
    exact .inr ⟨by unfold doesB; simp [h0], ⟨_, rfl⟩, h.still hb, hb⟩
theorem does_parts {σ : Kept} {τ : Tab} {e : Ev} (h : doesB σ τ e = true) : rightB e = true ∧ refuseB τ e = 0 := by
  unfold doesB at h
  simp only [Bool.and_eq_true, decide_eq_true_eq] at h
  exact ⟨h.1, h.2.1⟩
end Go.Proofs.YtdjpghgnjcmdnaaGreatDoor

/- A feed's records, and a source's: a fresh row. -/
namespace Go.Proofs.YtdjpghgnjcmdnaaGreatDoor
open Go.RowKit Go.Sort Go.Shelf
attribute [local go_sem ↓] Go.wp_at_zero Go.wp_at_succ
def laysCloneR_ren : Go.Shelf.Ren := ⟨fun | 41 => 125 | n => n, fun | 22 => 82 | 23 => 74 | 4 => 4 | n => n, fun | n => n⟩
theorem laysCloneR : Go.Proofs.SlLaysE0.n41 Tryz.prog laysCloneR_ren := {
  mixed := by kernel_rfl
  f41 := ⟨Tryz.f125.name, by decide, Tryz.func125.trans (congrArg some (by kernel_rfl))⟩
  t4 := Tryz.underlying4
  a4 := Tryz.isAgg4
  z4 := Tryz.sizeOf4
  v4 := Tryz.zeroValue4
  t22 := Tryz.underlying82
  a22 := Tryz.isAgg82
  z22 := Tryz.sizeOf82
  v22 := Tryz.zeroValue82 }
theorem recsL_len : ∀ rs : List Rec, (recsL rs).length = rs.length * 5
  | [] => rfl
  | r :: rs => by
    have ih := recsL_len rs
    have e : recsL (r :: rs) = recL r ++ recsL rs := rfl
    have e5 : (recL r).length = 5 := rfl
    rw [e, List.length_append, ih, e5, List.length_cons]
    omega
theorem recL_one (r : Rec) (u : Value) (h : u ∈ recL r) : u.oneCell' = true := by
  simp only [recL, List.mem_cons, List.not_mem_nil, or_false] at h
  rcases h with rfl | rfl | rfl | rfl | rfl <;> rfl
/-- slices.Clone. -/
theorem cloneR_any (b : Nat) (v : Value) (rs : List Rec) (w : World) (h : w.ownsRow b 74 5 v rs.length (recsL rs)) (hl : rs.length ≤ 1000) :
    Calls Tryz.prog 125 #[v] w fun x w' => ∃ u, x = .returned u ∧ w'.ownsRow w.heap.size 74 5 u rs.length (recsL rs) ∧ Below w.heap.size w w' := by
  obtain ⟨i0, hi, hz0, hz1, hz2⟩ := info_parts info66
  have hlen := recsL_len rs
  rcases h.2 with ⟨e, e0⟩ | ⟨g, cap, cur, hv, hb, hg, h1, h2, h3, h4⟩
  · subst e
    have er : rs = [] := List.eq_nil_of_length_eq_zero e0
    subst er
    refine (AnyE.slices_Clone_nil (ρ := laysCloneR_ren) laysCloneR 0 0 w).mono ?_
    rintro x w' ⟨rfl, rfl⟩
    exact ⟨_, rfl, World.ownsRow_nil _ _ _ _, Below.refl _ _⟩
  · subst hv
    refine (AnyE.slices_Clone (ρ := laysCloneR_ren) laysCloneR i0 (.agg rec0) 5 64 hi hz0 hz1 hz2 rfl (by omega) (fun w => Tryz.sizeOf74 w) g 0 rs.length cap (recsL rs) w hlen (by unfold maxLen; omega) (by omega) ?_ ?_).mono ?_
    · intro j u hj
      have hj5 : j < rs.length * 5 := by
        have := (List.getElem?_eq_some_iff.1 hj).1
        omega
      rw [Nat.zero_add, cell_of_row w g _ cur 74 (0, 0) hg, ← Array.getElem?_toList, ← List.getElem?_take_of_lt (j := rs.length * 5) hj5, h4]
      exact hj
    · intro u hu
      unfold recsL at hu
      obtain ⟨r, _, hr⟩ := List.mem_flatMap.1 hu
      exact recL_one r u hr
    · rintro x w' ⟨u, rfl, ho, _, hb⟩
      exact ⟨u, rfl, ho, hb⟩
set_option maxRecDepth 100000 in
set_option maxHeartbeats 1000000 in
theorem records_any (w : World) (fb vb : Nat) (v : Value) (rs : List Rec) (h : FeedV w fb vb v rs) (hl : rs.length ≤ 1000) :
    Calls Tryz.prog 83 #[.pointer (some ⟨fb, 0, none⟩)] w fun x w' => ∃ u, x = .returned u ∧ w'.ownsRow w.heap.size 74 5 u rs.length (recsL rs) ∧ Below w.heap.size w w' := by
  have hq := ptrF_nil fb
  have c1 : w.cell? ⟨fb, 1, none⟩ = some v := h.row.cell 1
  obtain ⟨p, c, rfl⟩ := h.slice
  have C := hide (cloneR_any (fb + 1) _ rs w h.own hl)
  clear h
  go_enter Tryz.func83, Tryz.ntmps83
  go_wp2_with (go_at_call 125; (with_reducible refine C.out.mono ?_); rintro x w1 ⟨u, rfl, ho, hb⟩)
  go_ret
  exact ⟨u, rfl, ho, hb⟩
set_option maxRecDepth 100000 in
set_option maxHeartbeats 1000000 in
theorem srcFeed_any (B : Nat) (w : World) (sb fb vb : Nat) (mt mv : Option Nat) (v : Value) (nt nv : Nat) (sec : ByteArray) (σ : Kept) (τ : Tab) (rs : List Rec) (h : Src B w sb fb vb mt mv v nt nv sec σ τ rs) (hl : rs.length ≤ 1000) :
    Calls Tryz.prog 47 #[.pointer (some ⟨sb, 0, none⟩)] w fun x w' => ∃ u, x = .returned u ∧ w'.ownsRow w.heap.size 74 5 u rs.length (recsL rs) ∧ Below w.heap.size w w' := by
  have hq := ptrS_nil sb
  have c1 : w.cell? ⟨sb, 1, none⟩ = some (.pointer (some ⟨fb, 0, none⟩)) := h.tab.row.cell 1
  have C := hide (records_any w fb vb v rs h.feed hl)
  clear h
  go_enter Tryz.func47, Tryz.ntmps47
  go_wp2_with (go_at_call 83; (with_reducible refine C.out.mono ?_); rintro x w1 ⟨u, rfl, ho, hb⟩)
  go_ret
  exact ⟨u, rfl, ho, hb⟩
end Go.Proofs.YtdjpghgnjcmdnaaGreatDoor

/- Do of a short event, as it is known whether it happens; what a law reads of lists. -/
namespace Go.Proofs.YtdjpghgnjcmdnaaGreatDoor
open Go.RowKit Go.Sort
set_option linter.unusedSectionVars false
theorem ownsRow_slice {w : World} {b : Nat} {t : TypeId} {n len : Nat} {v : Value} {l : List Value} (h : w.ownsRow b t n v len l) : ∃ p c, v = .slice p len c := by
  rcases h.2 with ⟨rfl, rfl⟩ | ⟨g, cap, cur, rfl, _⟩
  · exact ⟨_, _, rfl⟩
  · exact ⟨_, _, rfl⟩
theorem do_yes (B : Nat) (w : World) (sb fb vb : Nat) (mt mv : Option Nat) (v : Value) (nt nv : Nat) (sec : ByteArray) (σ : Kept) (τ : Tab) (rs : List Rec) (e : Ev) (h : Src B w sb fb vb mt mv v nt nv sec σ τ rs) (he : Brief e) (hp : sec.size ≤ 60) (hlen : rs.length < 100) (hnv : nv < 1000) (hnt : nt < 1000) (T : Tabs w) (hB : 10 < B) (hd : doesB σ τ e = true) :
    Calls Tryz.prog 43 #[.pointer (some ⟨sb, 0, none⟩), .agg #[.int .i64 e.k, .string e.s, .string e.t, .string e.r, .string e.v]] w fun x w' =>
      ∃ R, R = tellR sec σ rs e ∧ x = .returned (.tuple #[.agg #[.int .i64 (R.q : Int), .string R.s, .int .i64 (R.g : Int), .string R.p, .string R.d], .nilIface]) ∧ (∃ mt' m v', Src B w' sb fb vb mt' (some m) v' (nt + 1) (nv + 1) sec (tellK σ e) (app e τ) (rs ++ [R]) ∧ ∀ j ∈ ownS sb fb vb mt' (some m) v', j ∈ ownS sb fb vb mt mv v ∨ w.heap.size ≤ j) ∧ Stirred (ownS sb fb vb mt mv v) w w' ∧ Below B w w' := by
  refine (do_any B w sb fb vb mt mv v nt nv sec σ τ rs e h he hp hlen hnv hnt T hB).mono ?_
  rintro x w' (⟨_, rfl, hs, ht, hb⟩ | ⟨h1, _⟩)
  · exact ⟨_, rfl, rfl, hs, ht, hb⟩
  · rw [hd] at h1; cases h1
theorem do_no (B : Nat) (w : World) (sb fb vb : Nat) (mt mv : Option Nat) (v : Value) (nt nv : Nat) (sec : ByteArray) (σ : Kept) (τ : Tab) (rs : List Rec) (e : Ev) (h : Src B w sb fb vb mt mv v nt nv sec σ τ rs) (he : Brief e) (hp : sec.size ≤ 60) (hlen : rs.length < 100) (hnv : nv < 1000) (hnt : nt < 1000) (T : Tabs w) (hB : 10 < B) (hd : doesB σ τ e = false) :
    Calls Tryz.prog 43 #[.pointer (some ⟨sb, 0, none⟩), .agg #[.int .i64 e.k, .string e.s, .string e.t, .string e.r, .string e.v]] w fun x w' =>
      (∃ n : Int, x = .returned (.tuple #[.agg #[.int .i64 0, .string ⟨#[]⟩, .int .i64 0, .string ⟨#[]⟩, .string ⟨#[]⟩], .iface 25 (.int .i64 n)])) ∧ Src B w' sb fb vb mt mv v nt nv sec σ τ rs ∧ Below w.heap.size w w' := by
  refine (do_any B w sb fb vb mt mv v nt nv sec σ τ rs e h he hp hlen hnv hnt T hB).mono ?_
  rintro x w' (⟨h1, _⟩ | ⟨_, h2, h3, h4⟩)
  · rw [hd] at h1; cases h1
  · exact ⟨h2, h3, h4⟩
theorem evs_at {w wx : World} {b o : Nat} {e : Ev} {B : Nat} (hb : Below B w wx) (hB : w.heap.size ≤ B) (c : ∀ i u, (evL e)[i]? = some u → w.cell? ⟨b, o + i, none⟩ = some u) :
    wx.cell? ⟨b, o, none⟩ = some (.int .i64 e.k) ∧ wx.cell? ⟨b, o + 1, none⟩ = some (.string e.s) ∧ wx.cell? ⟨b, o + 2, none⟩ = some (.string e.t) ∧ wx.cell? ⟨b, o + 3, none⟩ = some (.string e.r) ∧ wx.cell? ⟨b, o + 4, none⟩ = some (.string e.v) ∧ b < wx.heap.size := by
  have lt : b < w.heap.size := block_lt_of_cell (c 0 _ rfl)
  have g : ∀ i u, (evL e)[i]? = some u → wx.cell? ⟨b, o + i, none⟩ = some u := fun i u hu => (hb.cell (p := ⟨b, o + i, none⟩) (by show b < B; omega)).trans (c i u hu)
  exact ⟨g 0 _ rfl, g 1 _ rfl, g 2 _ rfl, g 3 _ rfl, g 4 _ rfl, Nat.lt_of_lt_of_le lt hb.size⟩
def ptrInt (p : Value) (w : World) : Nat := match p with
  | .pointer (some a) => match w.cell? a with
    | some (.int _ n) => n.toNat
    | _ => 0
  | _ => 0
theorem ptrInt_of {w : World} {I k : Nat} (h : HasR w I 3 #[.int .i64 (k : Int)]) : ptrInt (.pointer (some ⟨I, 0, none⟩)) w = k := by
  have := h.cell 0
  unfold ptrInt
  simp only
  rw [this]
  simp
end Go.Proofs.YtdjpghgnjcmdnaaGreatDoor
