/- Texts of this proof, one behind the other. -/
import Derived.Test.YtkbaalenbpgheaaGreatDoorPart33
/- Who comes late has what is left: a reader of a feed to which all happened already. -/
namespace Go.Proofs.YtkbaalenbpgheaaGreatDoor
open Go.RowKit Go.Sort
attribute [local go_sem ↓] Go.wp_at_zero Go.wp_at_succ
set_option linter.unusedSectionVars false
variable [Inhabited Cl] [Inhabited Ev]
/-- Is a record lost to who comes late, and how many are. -/
def lossB (ok : List Ev) (k : Nat) : Bool := !decide ((ok.getD k ev0).k = 3) && lostB (ok.drop (k + 1)) (ok.getD k ev0).s
def lostN (ok : List Ev) : Nat → Nat
  | 0 => 0
  | k + 1 => lostN ok k + if lossB ok k = true then 1 else 0
theorem lostN_le (ok : List Ev) : ∀ k, lostN ok k ≤ k
  | 0 => Nat.le_refl 0
  | k + 1 => by
    have := lostN_le ok k
    show lostN ok k + (if lossB ok k = true then 1 else 0) ≤ k + 1
    split <;> omega
theorem lossB_iff {ok : List Ev} {k : Nat} : lossB ok k = true ↔ (ok.getD k ev0).k ≠ 3 ∧ lostB (ok.drop (k + 1)) (ok.getD k ev0).s = true := by
  unfold lossB
  rw [Bool.and_eq_true, Bool.not_eq_true', decide_eq_false_iff_not]
theorem headR_take {rs : List Rec} {k : Nat} (h : k < rs.length) : headR (rs.take (k + 1)) = markR (rs.getD k recZ) := by
  have hne : ¬ rs.take (k + 1) = [] := fun e => by
    have := congrArg List.length e
    rw [List.length_take, List.length_nil, Nat.min_eq_left (by omega)] at this
    omega
  unfold headR
  rw [if_neg hne, List.length_take, Nat.min_eq_left (by omega), List.getD_eq_getElem?_getD, List.getD_eq_getElem?_getD, List.getElem?_take_of_lt (by omega)]
  rfl
set_option maxRecDepth 100000 in
set_option maxHeartbeats 1000000 in
/-- What was read is passed over. -/
theorem read_old (w : World) (rb vb read lost : Nat) (mark : ByteArray) (mt : Option Nat) (nt : Nat) (τ : Tab) (r : Rec) (h : TabV w rb 115 #[.pointer (some ⟨vb, 0, none⟩), .int .i64 (read : Int), .string mark, .int .i64 (lost : Int)] mt nt τ) (h1 : 1 ≤ r.q) (h2 : r.q ≤ read) :
    Calls Tryz.prog 32 #[.pointer (some ⟨rb, 0, none⟩), .agg #[.int .i64 (r.q : Int), .string r.s, .int .i64 (r.g : Int), .string r.p, .string r.d]] w fun y w' => y = .returned .nilIface ∧ Below w.heap.size w w' := by
  have bel : Below w.heap.size w (w.alloc (.cells #[.int .i64 (r.q : Int), .string r.s, .int .i64 (r.g : Int), .string r.p, .string r.d] 30)) := (Below.refl _ w).alloc (Nat.le_refl _) _
  have E0 := hide (HasR.new w 30 #[.int .i64 (r.q : Int), .string r.s, .int .i64 (r.g : Int), .string r.p, .string r.d])
  have AT := hide (at_any _ rb vb read lost mark mt nt τ (h.below bel))
  have BL := hide bel
  have hq1 := ptrR_nil rb
  have n1 : (1 : Int) ≤ (r.q : Int) := by omega
  have n2 : (r.q : Int) ≤ (read : Int) := by omega
  have d1 : decide ((1 : Int) ≤ (r.q : Int)) = true := decide_eq_true n1
  have d2 : decide ((r.q : Int) ≤ (read : Int)) = true := decide_eq_true n2
  clear h bel
  go_enter Tryz.func32, Tryz.ntmps32
  go_wp2_with (
    go_at_call 35; (with_reducible refine AT.out.mono ?_); rintro y w1 ⟨rfl, hb1⟩
    have B1 := hide (BL.out.trans (hb1.mono BL.out.size))
    have E1 := hide (E0.out.below hb1 E0.out.lt)
    have e0 : w1.cell? ⟨w.heap.size, 0, none⟩ = some (.int .i64 (r.q : Int)) := E1.out.cell 0
    clear hb1)
  go_ret
  exact ⟨rfl, B1.out⟩
set_option maxRecDepth 100000 in
set_option maxHeartbeats 1000000 in
/-- Of those ahead it reads the next one alone. -/
theorem read_order (w : World) (rb vb read lost : Nat) (mark : ByteArray) (mt : Option Nat) (nt : Nat) (τ : Tab) (r : Rec) (h : TabV w rb 115 #[.pointer (some ⟨vb, 0, none⟩), .int .i64 (read : Int), .string mark, .int .i64 (lost : Int)] mt nt τ) (h2 : read + 1 < r.q) (h3 : r.q < 1000) :
    Calls Tryz.prog 32 #[.pointer (some ⟨rb, 0, none⟩), .agg #[.int .i64 (r.q : Int), .string r.s, .int .i64 (r.g : Int), .string r.p, .string r.d]] w fun y w' => y = .returned (.iface 56 (.int .i64 10)) ∧ Below w.heap.size w w' := by
  have bel : Below w.heap.size w (w.alloc (.cells #[.int .i64 (r.q : Int), .string r.s, .int .i64 (r.g : Int), .string r.p, .string r.d] 30)) := (Below.refl _ w).alloc (Nat.le_refl _) _
  have E0 := hide (HasR.new w 30 #[.int .i64 (r.q : Int), .string r.s, .int .i64 (r.g : Int), .string r.p, .string r.d])
  have AT := hide (at_any _ rb vb read lost mark mt nt τ (h.below bel))
  have BL := hide bel
  have hq1 := ptrR_nil rb
  have n1 : (1 : Int) ≤ (r.q : Int) := by omega
  have n2 : ¬ (r.q : Int) ≤ (read : Int) := by omega
  have n3 : ¬ (r.q : Int) < 1 := by omega
  have d1 : decide ((1 : Int) ≤ (r.q : Int)) = true := decide_eq_true n1
  have d2 : decide ((r.q : Int) ≤ (read : Int)) = false := decide_eq_false n2
  have d3 : decide ((r.q : Int) < 1) = false := decide_eq_false n3
  have hwr : IntKind.i64.wrap ((r.q : Int) - 1) = (r.q : Int) - 1 := by rw [IntKind.wrap_i64]; omega
  have d4 : ((r.q : Int) - 1 != (read : Int)) = true := by simp [bne]; omega
  have n4 : ¬ (r.q : Int) - 1 = (read : Int) := by omega
  clear h bel
  go_enter Tryz.func32, Tryz.ntmps32
  go_wp2_with (
    go_at_call 35; (with_reducible refine AT.out.mono ?_); rintro y w1 ⟨rfl, hb1⟩
    have B1 := hide (BL.out.trans (hb1.mono BL.out.size))
    have E1 := hide (E0.out.below hb1 E0.out.lt)
    have e0 : w1.cell? ⟨w.heap.size, 0, none⟩ = some (.int .i64 (r.q : Int)) := E1.out.cell 0
    clear hb1)
  go_ret
  exact ⟨rfl, B1.out⟩
/-- A reader that read the first n records, all of its own blocks from Br on. -/
structure Rl (w : World) (Br B rb : Nat) (st : Hst) (n : Nat) : Prop where
  rd : ∃ mr nt mark, TabV w rb 115 #[.pointer (some ⟨B, 0, none⟩), .int .i64 (n : Int), .string mark, .int .i64 ((lostN st.ok n : Nat) : Int)] mr nt (lateT st.ok n) ∧ nt ≤ n ∧ markAt n mark = headR (st.rs.take n) ∧ ∀ m, mr = some m → Br ≤ m
  low : Br ≤ rb
theorem Rl.still {w w' : World} {Br B rb : Nat} {st : Hst} {n : Nat} (h : Rl w Br B rb st n) (b : Below w.heap.size w w') : Rl w' Br B rb st n := by
  obtain ⟨mr, nt, mark, hT, h1, h2, h3⟩ := h.rd
  exact ⟨⟨mr, nt, mark, hT.below b, h1, h2, h3⟩, h.low⟩
theorem Rl.start (w : World) (B : Nat) (st : Hst) : Rl (w.alloc (.cells #[.pointer (some ⟨B, 0, none⟩), .int .i64 0, .string ⟨#[]⟩, .int .i64 0, .map none] 115)) w.heap.size B w.heap.size st 0 :=
  ⟨⟨none, 0, ⟨#[]⟩, ⟨HasR.new w 115 _, fun _ => lateT_start st.ok, (fun m e => by cases e)⟩, Nat.le_refl _, rfl, (fun m e => by cases e)⟩, Nat.le_refl _⟩
theorem Rl.read {w : World} {Br B rb : Nat} {st : Hst} {n : Nat} (h : Rl w Br B rb st n) (hd : Did secB st) (S : ∃ mt mv v, Src B w (B + 2) (B + 1) B mt mv v st.ok.length st.ok.length secB st.σ st.τ st.rs) (T : Tabs w) (h3 : 3 < Br) (hn : st.ok.length < 100) (hk : n < st.ok.length) (hbr : Brief (st.ok.getD n ev0)) :
    Calls Tryz.prog 32 #[.pointer (some ⟨rb, 0, none⟩), .agg #[.int .i64 ((st.rs.getD n recZ).q : Int), .string (st.rs.getD n recZ).s, .int .i64 ((st.rs.getD n recZ).g : Int), .string (st.rs.getD n recZ).p, .string (st.rs.getD n recZ).d]] w fun x w' => x = .returned .nilIface ∧ Rl w' Br B rb st (n + 1) ∧ ∃ L, Stirred L w w' ∧ ∀ j ∈ L, Br ≤ j ∧ j < w.heap.size ∧ ∀ t cs, HasR w j t cs → t = 115 := by
  obtain ⟨mr, nt, mark, hT, h1, h2, h4⟩ := h.rd
  obtain ⟨mt, mv, v, hS⟩ := S
  obtain ⟨hrl, hrecs⟩ := hd.recs
  obtain ⟨hRO, hq, hp⟩ := hrecs n hk
  have hfit : Fit (st.rs.getD n recZ) := hS.fit _ (getD_mem (by omega))
  obtain ⟨x, er, hx, hO⟩ := open_either hRO hfit
  have hE : (lossB st.ok n = true ∧ er = .iface 56 (.int .i64 8)) ∨ (lossB st.ok n = false ∧ er = .nilIface ∧ rightB x = true ∧ Brief x) := by
    rcases hx with ⟨a, b, c, d⟩ | ⟨a, b, c⟩
    · exact .inl ⟨lossB_iff.2 ⟨a, b⟩, d⟩
    · refine .inr ⟨?_, c, by rw [b]; exact hRO.right, by rw [b]; exact hbr⟩
      cases hb : lossB st.ok n
      · rfl
      · exact absurd (lossB_iff.1 hb) a
  have hle := lostN_le st.ok n
  refine (read_next w rb B n (lostN st.ok n) mark mr nt (lateT st.ok n) (st.rs.getD n recZ) x er (lossB st.ok n) hT (fun wx hb => hO _ _ _ _ _ _ _ _ _ _ _ _ (hS.still hb) (T.below hb T.k.lt)) hE (by omega) (by omega) (by omega) hq (by rw [hp, h2]) hfit T.k ?_).mono ?_
  · intro j hj
    rcases List.mem_cons.1 hj with a | a
    · have := h.low; omega
    · have := h4 j (by simpa using a); omega
  · rintro y w' ⟨rfl, mr', hT', hm, hst⟩
    refine ⟨rfl, ⟨⟨mr', nt + 1, markR (st.rs.getD n recZ), ?_, by omega, ?_, fun m em => ?_⟩, h.low⟩, _, hst, fun j hj => ?_⟩
    · have e1 : (if lossB st.ok n = true then lostN st.ok n + 1 else lostN st.ok n) = lostN st.ok (n + 1) := by
        show _ = lostN st.ok n + (if lossB st.ok n = true then 1 else 0)
        split <;> rfl
      have e2 : (if lossB st.ok n = true then lateT st.ok n else app x (lateT st.ok n)) = lateT st.ok (n + 1) := by
        rw [lateT_step hd hk]
        rcases hx with ⟨a, b, c, d⟩ | ⟨a, b, c⟩
        · rw [if_pos (lossB_iff.2 ⟨a, b⟩), if_pos ⟨a, b⟩]
        · rw [if_neg (fun z => a (lossB_iff.1 z)), if_neg a, b]
      rw [e1, e2] at hT'
      exact hT'
    · rw [headR_take (by omega)]
      unfold markAt
      rw [if_neg (by omega)]
    · rcases hm with a | ⟨_, m2, a, b⟩
      · rw [a] at em
        exact h4 m em
      · rw [a] at em
        cases em
        have := hT.row.lt
        have := h.low
        omega
    · rcases List.mem_cons.1 hj with a | a
      · rw [a]
        refine ⟨h.low, hT.row.lt, fun t cs hc => ?_⟩
        by_cases ht : t = 115
        · exact ht
        · exact absurd rfl (hc.apartT hT.row ht)
      · obtain ⟨D, o, _⟩ := hT.held j (by simpa using a)
        exact ⟨h4 j (by simpa using a), o.lt, fun t cs hc => absurd rfl (hc.noMap o)⟩
theorem Rl.cells {w : World} {Br B rb : Nat} {st : Hst} {n : Nat} (h : Rl w Br B rb st n) (hn : n < 100) : Calls Tryz.prog 33 #[.pointer (some ⟨rb, 0, none⟩)] w fun x w' => ∃ u ds, x = .returned u ∧ InOrd (lateT st.ok n) ds ∧ ds.length ≤ 100 ∧ RowC w' w.heap.size u ds ∧ Below w.heap.size w w' := by
  obtain ⟨mr, nt, mark, hT, h1, h2, h4⟩ := h.rd
  refine (rdCells_any w rb B n (lostN st.ok n) mark mr nt (lateT st.ok n) hT (by omega)).mono ?_
  rintro x w' ⟨u, ds, a, b, c, d⟩
  exact ⟨u, ds, a, b, by omega, d⟩
theorem Rl.at {w : World} {Br B rb : Nat} {st : Hst} {n : Nat} (h : Rl w Br B rb st n) : Calls Tryz.prog 35 #[.pointer (some ⟨rb, 0, none⟩)] w fun x w' => x = .returned (.tuple #[.int .i64 (n : Int), .string (headR (st.rs.take n))]) ∧ Below w.heap.size w w' := by
  obtain ⟨mr, nt, mark, hT, h1, h2, h4⟩ := h.rd
  rw [← h2]
  exact at_any w rb B n (lostN st.ok n) mark mr nt (lateT st.ok n) hT
theorem Rl.lost {w : World} {Br B rb : Nat} {st : Hst} {n : Nat} (h : Rl w Br B rb st n) : Calls Tryz.prog 34 #[.pointer (some ⟨rb, 0, none⟩)] w fun x w' => x = .returned (.int .i64 ((lostN st.ok n : Nat) : Int)) ∧ w' = w := by
  obtain ⟨mr, nt, mark, hT, h1, h2, h4⟩ := h.rd
  exact lost_any w rb B n (lostN st.ok n) mark mr nt (lateT st.ok n) hT
set_option maxRecDepth 100000 in
set_option maxHeartbeats 400000 in
theorem pick_any (a : Int) (n : Nat) (h0 : 0 < n) (hn : n ≤ 1000000) (w : World) :
    Calls Tryz.prog 28 #[.int .i64 a, .int .i64 n] w fun e w' => ∃ c : Nat, c < n ∧ e = .returned (.int .i64 c) ∧ w' = w := by
  have x1 : IntKind.u64.wrap (n : Int) = (n : Int) := by rw [IntKind.wrap_u64]; omega
  have x0 : 0 ≤ IntKind.u64.wrap a := by rw [IntKind.wrap_u64]; omega
  have x00 : IntKind.u64.wrap a < 18446744073709551616 := by rw [IntKind.wrap_u64]; omega
  generalize hu : IntKind.u64.wrap a = u at x0 x00
  have x2 : 0 ≤ u % (n : Int) := Int.emod_nonneg _ (by omega)
  have x3 : u % (n : Int) < (n : Int) := Int.emod_lt_of_pos _ (by omega)
  obtain ⟨c, hc⟩ : ∃ c : Nat, u % (n : Int) = (c : Int) := ⟨(u % (n : Int)).toNat, by omega⟩
  have x4 : IntKind.i64.wrap (c : Int) = (c : Int) := by rw [IntKind.wrap_i64]; omega
  go_enter Tryz.func28, Tryz.ntmps28
  go_wp2
  go_ret
  exact ⟨c, by omega, ret_val rfl, rfl⟩
set_option maxRecDepth 100000 in
set_option maxHeartbeats 4000000 in
/-- The laws' own follow: a new reader, of the first records of a feed. -/
theorem follow_any (w : World) (B base n c : Nat) (p : Option Addr) (st : Hst) (hd : Did secB st) (S : ∃ mt mv v, Src B w (B + 2) (B + 1) B mt mv v st.ok.length st.ok.length secB st.σ st.τ st.rs) (T : Tabs w) (hn : st.ok.length < 100) (hl : n ≤ st.ok.length) (hr : w.ownsRow base 30 5 (.slice p st.ok.length c) st.ok.length (recsL st.rs)) (hbr : ∀ e ∈ st.ok, Brief e) :
    Calls Tryz.prog 29 #[.pointer (some ⟨B, 0, none⟩), .slice p n c] w fun x w' => ∃ rb, x = .returned (.tuple #[.pointer (some ⟨rb, 0, none⟩), .bool true]) ∧ Rl w' w.heap.size B rb st n ∧ Below w.heap.size w w' := by
  have TT := hide T
  have TK := T.k.lt
  have SS := hide S
  have HR := hide hr
  have HB := hide hbr
  have hDid := hide hd
  have HRL := hide hd.recs.1
  have RN := hide (rdNew_ok B w)
  have hne := nilNe
  have hpr := ptrR_nil
  have L0 := hide (Rl.start w B st)
  clear T S hr hbr hd
  go_enter Tryz.func29, Tryz.ntmps29
  go_wp2_with (go_at_call 58; (with_reducible refine RN.out.mono ?_); rintro x w6 ⟨rfl, hw6⟩; obtain rfl := hw6.symm)
  go_loopw [8] (fun i wr => ∃ k : Nat, i = .int .i64 k ∧ k ≤ n ∧ Rl wr w.heap.size B w.heap.size st k ∧ Below w.heap.size w wr) (fun i _ => n - (intOf i).toNat)
  case atStart => exact ⟨0, rfl, Nat.zero_le _, L0.out, (Below.refl _ w).alloc (Nat.le_refl _) _⟩
  case round =>
    clear L0 hpr RN
    obtain ⟨k, rfl, hk, hI, hb⟩ := hrel
    have L := hide hI
    have BB := hide hb
    clear hI hb
    by_cases hlt : k < n
    · have hks : k < st.ok.length := by omega
      obtain ⟨g, rfl, _⟩ := block_of HR.out (by omega)
      obtain ⟨f0, f1, f2, f3, f4, hgf⟩ := recs_c (ownsRow_below HR.out BB.out) HRL.out hks
      have S2 : ∃ mt mv v, Src B wr (B + 2) (B + 1) B mt mv v st.ok.length st.ok.length secB st.σ st.τ st.rs := by
        obtain ⟨mt, mv, v, hS⟩ := SS.out
        exact ⟨mt, mv, v, hS.still BB.out⟩
      have RD := hide (L.out.read hDid.out S2 (TT.out.below BB.out TK) (by omega) hn hks (HB.out _ (getD_mem hks)))
      have i1 : (k : Int) < (n : Int) := by omega
      generalize st.rs.getD k recZ = r at f0 f1 f2 f3 f4 RD
      clear S2
      go_wp2_with (
        go_at_call 32; (with_reducible refine RD.out.mono ?_); rintro x w7 ⟨rfl, hL7, L, hst, hL⟩
        have L7 := hide hL7
        have B7 := hide (BB.out.trans (hst.below BB.out.size (fun j hj => (hL j hj).1)))
        clear hL7 hst hL)
      exact ⟨⟨k + 1, by go_num, by omega, L7.out, B7.out⟩, by simp [intOf]; omega⟩
    · have ek : k = n := by omega
      subst ek
      go_wp2
      go_ret2
      exact ⟨w.heap.size, rfl, L.out, BB.out⟩
end Go.Proofs.YtkbaalenbpgheaaGreatDoor

/- A reader that goes on when more has happened, as mathematics; and rows that are put one by one. -/
namespace Go.Proofs.YtkbaalenbpgheaaGreatDoor
open Go.RowKit Go.Sort
set_option linter.unusedSectionVars false
variable [Inhabited Cl] [Inhabited Ev]
/-- What is read leaves of a table the rows of those who are not forgotten, whatever the table. -/
theorem late_goes {e : Ev} {l : List Ev} {τ : Tab} (hr : rightB e = true) (hn : ¬ (e.k ≠ 3 ∧ lostB l e.s = true)) : keepT l (app e τ) = app e (keepT (e :: l) τ) := by
  funext t r
  rw [app_right hr, app_right hr]
  rcases right_kind hr with hk | hk | hk
  · have h3 : e.k ≠ 3 := by omega
    have hl : ¬ lostB l e.s = true := fun x => hn ⟨h3, x⟩
    have hlc : ∀ s, lostB (e :: l) s = lostB l s := fun s => by rw [lostB_cons]; simp [h3]
    by_cases hh : hereB t r e = true
    · have e1 : act e τ t r = some (e.s, e.v) := by rw [act_put hk, if_pos hh]
      rw [keepT_some e1, if_neg hl, act_put hk, if_pos hh]
    · have e1 : act e τ t r = τ t r := by rw [act_put hk, if_neg hh]
      rw [act_put hk, if_neg hh]
      cases hx : τ t r with
      | none => rw [keepT_none (e1.trans hx), keepT_none hx]
      | some p => rw [keepT_some (e1.trans hx), keepT_some hx, hlc]
  · have h3 : e.k ≠ 3 := by omega
    have hl : ¬ lostB l e.s = true := fun x => hn ⟨h3, x⟩
    have hlc : ∀ s, lostB (e :: l) s = lostB l s := fun s => by rw [lostB_cons]; simp [h3]
    rw [act_del hk]
    cases hx : τ t r with
    | none =>
      have e1 : act e τ t r = none := by rw [act_del hk, hx]; simp
      rw [keepT_none e1, keepT_none hx]; simp
    | some p =>
      by_cases hh : hereB t r e = true
      · by_cases hp : p.1 = e.s
        · have e1 : act e τ t r = none := by rw [act_del hk, hx]; simp [hh, ownB, hp]
          rw [keepT_none e1, keepT_some hx, hlc, hp, if_neg hl]
          simp [hh, ownB, hp]
        · have e1 : act e τ t r = some p := by rw [act_del hk, hx]; simp [ownB, hp]
          rw [keepT_some e1, keepT_some hx, hlc]
          by_cases hq : lostB l p.1 = true
          · simp [hq]
          · simp [hq, ownB, hp]
      · have e1 : act e τ t r = some p := by rw [act_del hk, hx]; simp [hh]
        rw [keepT_some e1, keepT_some hx, hlc]
        simp [hh]
  · rw [act_gone (by omega) (by omega)]
    cases hx : τ t r with
    | none =>
      have e1 : act e τ t r = none := by rw [act_gone (by omega) (by omega), hx]; rfl
      rw [keepT_none e1, keepT_none hx]; rfl
    | some p =>
      by_cases hp : p.1 = e.s
      · have e1 : act e τ t r = none := by rw [act_gone (by omega) (by omega), hx]; simp [ownB, hp]
        have e2 : keepT (e :: l) τ t r = none := by rw [keepT_some hx, lostB_cons]; simp [hk, hp]
        rw [keepT_none e1, e2]; rfl
      · have e1 : act e τ t r = some p := by rw [act_gone (by omega) (by omega), hx]; simp [ownB, hp]
        have hq : ¬ e.s = p.1 := fun x => hp x.symm
        have e2 : keepT (e :: l) τ t r = if lostB l p.1 = true then none else some p := by rw [keepT_some hx, lostB_cons]; simp [hk, hq]
        rw [keepT_some e1, e2]
        by_cases hl : lostB l p.1 = true
        · simp [hl, ownB]
        · simp [hl, ownB, hp]
theorem late_stays {e : Ev} {l : List Ev} {τ : Tab} (h3 : e.k ≠ 3) : keepT (e :: l) τ = keepT l τ := by
  funext t r
  have hlc : ∀ s, lostB (e :: l) s = lostB l s := fun s => by rw [lostB_cons]; simp [h3]
  cases hx : τ t r with
  | none => rw [keepT_none hx, keepT_none hx]
  | some p => rw [keepT_some hx, keepT_some hx, hlc]
theorem keepT_more {l m : List Ev} {τ : Tab} : keepT (l ++ m) (keepT l τ) = keepT (l ++ m) τ := by
  funext t r
  have ha : ∀ s, lostB (l ++ m) s = (lostB l s || lostB m s) := fun s => by unfold lostB; rw [List.any_append]
  cases hx : τ t r with
  | none => rw [keepT_none (keepT_none hx), keepT_none hx]
  | some p =>
    by_cases hl : lostB l p.1 = true
    · have e1 : keepT l τ t r = none := by rw [keepT_some hx, if_pos hl]
      rw [keepT_none e1, keepT_some hx, ha, hl]; rfl
    · have e1 : keepT l τ t r = some p := by rw [keepT_some hx, if_neg hl]
      rw [keepT_some e1, keepT_some hx]
/-- What a reader has that read k records, and then j more of what is there by now. -/
def goesT (ok : List Ev) (k : Nat) (τ : Tab) : Nat → Tab
  | 0 => τ
  | j + 1 => if lossB ok (k + j) = true then goesT ok k τ j else app (ok.getD (k + j) ev0) (goesT ok k τ j)
/-- How many are lost to it. -/
def goesN (ok : List Ev) (k n : Nat) : Nat → Nat
  | 0 => n
  | j + 1 => if lossB ok (k + j) = true then goesN ok k n j + 1 else goesN ok k n j
theorem goesN_le (ok : List Ev) (k n : Nat) : ∀ j, goesN ok k n j ≤ n + j
  | 0 => Nat.le_refl _
  | j + 1 => by
    have := goesN_le ok k n j
    show (if lossB ok (k + j) = true then goesN ok k n j + 1 else goesN ok k n j) ≤ n + (j + 1)
    split <;> omega
theorem goes_keep {sec : ByteArray} {s : Hst} (h : Did sec s) {k : Nat} {τ : Tab} (h0 : keepT (s.ok.drop k) τ = lateT s.ok k) : ∀ j, k + j ≤ s.ok.length → keepT (s.ok.drop (k + j)) (goesT s.ok k τ j) = lateT s.ok (k + j)
  | 0, _ => h0
  | j + 1, hj => by
    have ih := goes_keep h h0 j (by omega)
    have hk : k + j < s.ok.length := by omega
    rw [drop_cons hk] at ih
    show keepT (s.ok.drop (k + j + 1)) (if lossB s.ok (k + j) = true then goesT s.ok k τ j else app (s.ok.getD (k + j) ev0) (goesT s.ok k τ j)) = lateT s.ok (k + j + 1)
    rw [lateT_step h hk]
    by_cases hl : lossB s.ok (k + j) = true
    · rw [if_pos hl, if_pos (lossB_iff.1 hl), ← ih, late_stays (lossB_iff.1 hl).1]
    · have hn : ¬ ((s.ok.getD (k + j) ev0).k ≠ 3 ∧ lostB (s.ok.drop (k + j + 1)) (s.ok.getD (k + j) ev0).s = true) := fun x => hl (lossB_iff.2 x)
      rw [if_neg hl, if_neg hn, late_goes (h.free _ hk).1 hn, ih]
/-- At last it has what there is. -/
theorem goes_end {sec : ByteArray} {s s' : Hst} (h' : Did sec s') {k : Nat} (hk : k ≤ s.ok.length) {mo : List Ev} (hm : s'.ok = s.ok ++ mo) : goesT s'.ok k (lateT s.ok k) (s'.ok.length - k) = s'.τ := by
  have hl : s'.ok.length = s.ok.length + mo.length := by rw [hm, List.length_append]
  have h0 : keepT (s'.ok.drop k) (lateT s.ok k) = lateT s'.ok k := by
    have e1 : s'.ok.drop k = s.ok.drop k ++ mo := by rw [hm, List.drop_append_of_le_length hk]
    have e2 : s'.ok.take k = s.ok.take k := by rw [hm, List.take_append_of_le_length hk]
    unfold lateT
    rw [e1, e2, keepT_more]
  have h1 := goes_keep h' h0 (s'.ok.length - k) (by omega)
  rw [show k + (s'.ok.length - k) = s'.ok.length by omega, List.drop_length, keepT_nil, lateT_end] at h1
  rw [h1, h'.tau]
/-- A cell as the event that leaves it. -/
def evOfC (c : Cl) : Ev := ⟨1, c.s, c.t, c.r, c.v⟩
/-- Each row was put. -/
theorem runs_put : ∀ (l : List Ev) (τ : Tab) (t r : ByteArray) (p : ByteArray × ByteArray), runs l τ t r = some p → τ t r = some p ∨ ∃ e ∈ l, rightB e = true ∧ e = ⟨1, p.1, t, r, p.2⟩
  | [], _, _, _, _, h => .inl h
  | e :: l, τ, t, r, p, h => by
    rw [runs_cons] at h
    rcases runs_put l (app e τ) t r p h with h1 | ⟨f, hf, a⟩
    · cases hr : rightB e
      · rw [app_wrong hr] at h1; exact .inl h1
      · rw [app_right hr] at h1
        rcases right_kind hr with hk | hk | hk
        · rw [act_put hk] at h1
          by_cases hh : hereB t r e = true
          · rw [if_pos hh] at h1
            obtain ⟨rfl, rfl⟩ := hereB_iff.1 hh
            injection h1 with h1
            subst h1
            refine .inr ⟨e, List.mem_cons_self, hr, ?_⟩
            cases e
            simp only at hk
            subst hk
            rfl
          · rw [if_neg hh] at h1; exact .inl h1
        · rw [act_del hk] at h1
          split at h1
          · cases h1
          · exact .inl h1
        · rw [act_gone (by omega) (by omega)] at h1
          split at h1
          · cases h1
          · exact .inl h1
    · exact .inr ⟨f, List.mem_cons_of_mem _ hf, a⟩
theorem late_put {ok : List Ev} {k : Nat} {c : Cl} (h : lateT ok k c.t c.r = some (c.s, c.v)) : evOfC c ∈ ok ∧ rightB (evOfC c) = true := by
  have h1 : runs (ok.take k) tab0 c.t c.r = some (c.s, c.v) := by
    unfold lateT at h
    cases hx : runs (ok.take k) tab0 c.t c.r with
    | none => rw [keepT_none hx] at h; cases h
    | some p =>
      rw [keepT_some hx] at h
      split at h
      · cases h
      · exact h
  rcases runs_put _ _ _ _ _ h1 with h2 | ⟨e, he, hr, rfl⟩
  · cases h2
  · exact ⟨List.mem_of_mem_take he, hr⟩
/-- Rows that are put one by one, in order. -/
def putsT (ds : List Cl) : Tab := runs (ds.map evOfC) tab0
theorem putsT_snoc (ds : List Cl) (c : Cl) : putsT (ds ++ [c]) = app (evOfC c) (putsT ds) := by
  unfold putsT
  rw [List.map_append, List.map_singleton, runs_snoc]
theorem putsT_has : ∀ (ds : List Cl), (∀ c ∈ ds, rightB (evOfC c) = true) → ds.Pairwise (fun a b => ltC a b = true) → ∀ t r p, runs (ds.map evOfC) tab0 t r = some p ↔ ⟨t, r, p.1, p.2⟩ ∈ ds := by
  intro ds hr hp t r p
  constructor
  · intro h
    rcases runs_put _ _ _ _ _ h with h2 | ⟨e, he, _, rfl⟩
    · cases h2
    · obtain ⟨c, hc, e1⟩ := List.mem_map.1 he
      unfold evOfC at e1
      simp only [Ev.mk.injEq, true_and] at e1
      obtain ⟨a, b, d, f⟩ := e1
      rw [← a, ← b, ← d, ← f]
      exact hc
  · have gen : ∀ (ds : List Cl) (τ : Tab), (∀ c ∈ ds, rightB (evOfC c) = true) → ds.Pairwise (fun a b => ltC a b = true) → (⟨t, r, p.1, p.2⟩ : Cl) ∈ ds → runs (ds.map evOfC) τ t r = some p := by
      intro ds
      induction ds with
      | nil => intro τ _ _ h; cases h
      | cons c cs ih =>
        intro τ hr hp hm
        rw [List.map_cons, runs_cons]
        have hp2 := List.pairwise_cons.1 hp
        rcases List.mem_cons.1 hm with h1 | h1
        · have stay : ∀ (l : List Cl) (τ : Tab), (∀ d ∈ l, ltC c d = true) → τ t r = some p → runs (l.map evOfC) τ t r = some p := by
            intro l
            induction l with
            | nil => intro τ _ h; exact h
            | cons d l ih2 =>
              intro τ hl h
              rw [List.map_cons, runs_cons]
              refine ih2 _ (fun x hx => hl x (List.mem_cons_of_mem _ hx)) ?_
              cases hrd : rightB (evOfC d)
              · rw [app_wrong hrd]; exact h
              · rw [app_right hrd, act_put rfl, if_neg, h]
                intro hh
                obtain ⟨a, b⟩ := hereB_iff.1 hh
                have hlt := hl d List.mem_cons_self
                have ec1 : c.t = d.t := by rw [← h1]; exact a
                have ec2 : c.r = d.r := by rw [← h1]; exact b
                rw [ltC_iff] at hlt
                have hirr := ltC_irrefl c
                rw [Bool.eq_false_iff] at hirr
                refine hirr ((ltC_iff c c).2 ?_)
                rcases hlt with q | ⟨_, q⟩
                · exact .inl (by rw [← ec1] at q; exact q)
                · exact .inr ⟨rfl, by rw [← ec2] at q; exact q⟩
          refine stay cs _ hp2.1 ?_
          rw [app_right (hr c List.mem_cons_self), act_put rfl, if_pos (hereB_iff.2 (by rw [← h1]; exact ⟨rfl, rfl⟩)), ← h1]
          rfl
        · exact ih _ (fun d hd => hr d (List.mem_cons_of_mem _ hd)) hp2.2 h1
    exact gen ds tab0 hr hp
/-- They are the table that they came of. -/
theorem putsT_eq {τ : Tab} {ds : List Cl} (h : InOrd τ ds) (hr : ∀ c ∈ ds, rightB (evOfC c) = true) : putsT ds = τ := by
  funext t r
  have h1 := fun p => putsT_has ds hr h.1 t r p
  have h2 := fun p : ByteArray × ByteArray => h.2 ⟨t, r, p.1, p.2⟩
  cases hx : τ t r with
  | some p => exact (h1 p).2 ((h2 p).2 hx)
  | none =>
    cases hy : putsT ds t r with
    | none => rfl
    | some p =>
      have := (h2 p).1 ((h1 p).1 hy)
      simp only at this
      rw [hx] at this
      cases this
end Go.Proofs.YtkbaalenbpgheaaGreatDoor

/- What a reader saves, and what is loaded of it: the leaves. -/
namespace Go.Proofs.YtkbaalenbpgheaaGreatDoor
open Go.RowKit Go.Sort
attribute [local go_sem ↓] Go.wp_at_zero Go.wp_at_succ
set_option linter.unusedSectionVars false
variable [Inhabited Cl] [Inhabited Ev]
set_option maxRecDepth 100000 in
set_option maxHeartbeats 1000000 in
/-- Save. -/
theorem save_any (w : World) (rb vb read lost : Nat) (mark : ByteArray) (mt : Option Nat) (nt : Nat) (τ : Tab) (h : TabV w rb 115 #[.pointer (some ⟨vb, 0, none⟩), .int .i64 (read : Int), .string mark, .int .i64 (lost : Int)] mt nt τ) (hn : nt ≤ 1000) :
    Calls Tryz.prog 30 #[.pointer (some ⟨rb, 0, none⟩)] w fun x w' => ∃ u ds, x = .returned (.agg #[.int .i64 (read : Int), .string (markAt read mark), u, .int .i64 (lost : Int)]) ∧ InOrd τ ds ∧ ds.length ≤ nt ∧ RowC w' w.heap.size u ds ∧ Below w.heap.size w w' := by
  have bel : Below w.heap.size w (w.alloc (.cells #[.int .i64 0, .string ⟨#[]⟩, .slice none 0 0, .int .i64 0] 67)) := (Below.refl _ w).alloc (Nat.le_refl _) _
  have E0 := hide (HasR.new w 67 #[.int .i64 0, .string ⟨#[]⟩, .slice none 0 0, .int .i64 0])
  have BL := hide bel
  have HT := hide h
  have AT := hide (at_any _ rb vb read lost mark mt nt τ (h.below bel))
  clear h bel
  go_enter Tryz.func30, Tryz.ntmps30
  go_wp2_with (first
    | (go_at_call 35; (with_reducible refine AT.out.mono ?_); rintro y w1 ⟨rfl, hb1⟩
       have B1 := hide (BL.out.trans (hb1.mono BL.out.size))
       have E1 := hide (E0.out.below hb1 E0.out.lt)
       have C1 := hide (rdCells_any w1 rb vb read lost mark mt nt τ (HT.out.below B1.out) hn)
       clear hb1)
    | (go_at_call 33; (with_reducible refine C1.out.mono ?_); rintro y w2 ⟨u, ds, rfl, ho, hl, hr, hb2⟩
       obtain ⟨p, c, rfl⟩ := hr.len
       have B2 := hide (B1.out.trans (hb2.mono B1.out.size))
       have E2 := hide (E1.out.below hb2 E1.out.lt)
       have L2 := hide (lost_any w2 rb vb read lost mark mt nt τ (HT.out.below B2.out))
       have R2 := hide hr
       have hw1 := E1.out.lt
       have e0 : w2.cell? ⟨w.heap.size, 0, none⟩ = some (.int .i64 0) := E2.out.cell 0
       have e1 : w2.cell? ⟨w.heap.size, 1, none⟩ = some (.string ⟨#[]⟩) := E2.out.cell 1
       have e2 : w2.cell? ⟨w.heap.size, 2, none⟩ = some (.slice none 0 0) := E2.out.cell 2
       have e3 : w2.cell? ⟨w.heap.size, 3, none⟩ = some (.int .i64 0) := E2.out.cell 3
       have q0 : w2.frozen? ⟨w.heap.size, 0, none⟩ = false := E2.out.free 0
       have q1 : w2.frozen? ⟨w.heap.size, 1, none⟩ = false := E2.out.free 1
       have q2 : w2.frozen? ⟨w.heap.size, 2, none⟩ = false := E2.out.free 2
       have q3 : w2.frozen? ⟨w.heap.size, 3, none⟩ = false := E2.out.free 3
       clear hr hb2)
    | (go_at_call 34; (with_reducible refine L2.out.mono ?_); rintro y w3 ⟨rfl, hw3⟩; obtain rfl := hw3.symm))
  exact bodyPost_ret (v := .agg #[.int .i64 (read : Int), .string (markAt read mark), .slice p ds.length c, .int .i64 (lost : Int)]) (results_cell_row Tryz.results30 _ _ w.heap.size 67 #[.int .i64 (read : Int), .string (markAt read mark), .slice p ds.length c, .int .i64 (lost : Int)] (0, 0) _ rfl (HasR.four4 E2.out _ _ _ _) Tryz.underlying67 rfl (by kernel_rfl)) rfl ⟨_, ds, rfl, ho, hl, (R2.out.turned (stirF w2 w.heap.size _ _ _ _) (fun j hj => by simp at hj; omega)).mono (by omega), B2.out.trans ((stirF w2 w.heap.size _ _ _ _).below B2.out.size (fun j hj => by simp at hj; omega))⟩
set_option maxRecDepth 100000 in
set_option maxHeartbeats 1000000 in
theorem counts_any (w : World) (read lost : Nat) (mark : ByteArray) (p : Option Addr) (n c : Nat) (hl : lost ≤ read) (hm : mark.size = 16) :
    Calls Tryz.prog 59 #[.agg #[.int .i64 (read : Int), .string mark, .slice p n c, .int .i64 (lost : Int)]] w fun x w' => x = .returned (.bool true) ∧ Below w.heap.size w w' := by
  have bel : Below w.heap.size w (w.alloc (.cells #[.int .i64 (read : Int), .string mark, .slice p n c, .int .i64 (lost : Int)] 67)) := (Below.refl _ w).alloc (Nat.le_refl _) _
  have d1 : decide ((0 : Int) ≤ (read : Int)) = true := decide_eq_true (by omega)
  have d2 : decide ((0 : Int) ≤ (lost : Int)) = true := decide_eq_true (by omega)
  have d3 : decide ((lost : Int) ≤ (read : Int)) = true := decide_eq_true (by omega)
  have BL := hide bel
  clear bel
  go_enter Tryz.func59, Tryz.ntmps59
  go_wp2
  go_ret
  exact ⟨rfl, BL.out⟩
set_option maxRecDepth 100000 in
set_option maxHeartbeats 1000000 in
theorem begins_any (w : World) (read lost : Nat) (mark : ByteArray) (p : Option Addr) (n c : Nat) (h0 : read = 0 → mark = noneB ∧ n = 0) :
    Calls Tryz.prog 60 #[.agg #[.int .i64 (read : Int), .string mark, .slice p n c, .int .i64 (lost : Int)]] w fun x w' => x = .returned (.bool true) ∧ Below w.heap.size w w' := by
  have bel : Below w.heap.size w (w.alloc (.cells #[.int .i64 (read : Int), .string mark, .slice p n c, .int .i64 (lost : Int)] 67)) := (Below.refl _ w).alloc (Nat.le_refl _) _
  by_cases hr : read = 0
  · obtain ⟨rfl, rfl⟩ := h0 hr
    subst hr
    have BL := hide bel
    clear bel h0
    unfold noneB at *
    go_enter Tryz.func60, Tryz.ntmps60
    go_wp2
    go_ret
    exact ⟨rfl, BL.out⟩
  · have d1 : decide ((0 : Int) < (read : Int)) = true := decide_eq_true (by omega)
    have d2 : (0 : Int) < (read : Int) := by omega
    have BL := hide bel
    clear bel h0 hr
    go_enter Tryz.func60, Tryz.ntmps60
    go_wp2
    go_ret
    exact ⟨rfl, BL.out⟩
set_option maxRecDepth 100000 in
set_option maxHeartbeats 1000000 in
theorem putOf_any (w : World) (c : Cl) :
    Calls Tryz.prog 63 #[.agg #[.string c.t, .string c.r, .string c.s, .string c.v]] w fun x w' => x = .returned (.agg #[.int .i64 1, .string c.s, .string c.t, .string c.r, .string c.v]) ∧ Below w.heap.size w w' := by
  have bel : Below w.heap.size w (w.alloc (.cells #[.string c.t, .string c.r, .string c.s, .string c.v] 42)) := (Below.refl _ w).alloc (Nat.le_refl _) _
  have BL := hide (bel.alloc bel.size (.cells #[.int .i64 1, .string c.s, .string c.t, .string c.r, .string c.v] 36))
  have e0 := HasR.new (w.alloc (.cells #[.string c.t, .string c.r, .string c.s, .string c.v] 42)) 36 #[.int .i64 1, .string c.s, .string c.t, .string c.r, .string c.v]
  rw [World.size_alloc] at e0
  have E0 := hide e0
  clear e0
  clear bel
  go_enter Tryz.func63, Tryz.ntmps63
  go_wp2
  exact bodyPost_ret (v := .agg #[.int .i64 1, .string c.s, .string c.t, .string c.r, .string c.v]) (results_cell_row Tryz.results63 _ _ (w.heap.size + 1) 36 #[.int .i64 1, .string c.s, .string c.t, .string c.r, .string c.v] (0, 0) _ rfl E0.out Tryz.underlying36 rfl (by kernel_rfl)) rfl ⟨rfl, BL.out⟩
end Go.Proofs.YtkbaalenbpgheaaGreatDoor
