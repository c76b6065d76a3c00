/- Texts of this proof, one behind the other. -/
import Derived.Test.YtkbaalenbpgheaaGreatDoorPart36
/- Who comes late has what is left: a reader of a feed to which all happened already. -/
namespace Go.Proofs.YtkbaalenbpgheaaGreatDoor
open Go.RowKit Go.Sort
attribute [local go_sem ↓] Go.wp_at_zero Go.wp_at_succ
set_option linter.unusedSectionVars false
variable [Inhabited Cl] [Inhabited Ev]
/-- Is a record lost to who comes late, and how many are. -/
def lossB (ok : List Ev) (k : Nat) : Bool := !decide ((ok.getD k ev0).k = 3) && lostB (ok.drop (k + 1)) (ok.getD k ev0).s
def lostN (ok : List Ev) : Nat → Nat
  | 0 => 0
  | k + 1 => lostN ok k + if lossB ok k = true then 1 else 0
theorem lostN_le (ok : List Ev) : ∀ k, lostN ok k ≤ k
  | 0 => Nat.le_refl 0
  | k + 1 => by
    have := lostN_le ok k
    show lostN ok k + (if lossB ok k = true then 1 else 0) ≤ k + 1
    split <;> omega
theorem lossB_iff {ok : List Ev} {k : Nat} : lossB ok k = true ↔ (ok.getD k ev0).k ≠ 3 ∧ lostB (ok.drop (k + 1)) (ok.getD k ev0).s = true := by
  unfold lossB
  rw [Bool.and_eq_true, Bool.not_eq_true', decide_eq_false_iff_not]
theorem headR_take {rs : List Rec} {k : Nat} (h : k < rs.length) : headR (rs.take (k + 1)) = markR (rs.getD k recZ) := by
  have hne : ¬ rs.take (k + 1) = [] := fun e => by
    have := congrArg List.length e
    rw [List.length_take, List.length_nil, Nat.min_eq_left (by omega)] at this
    omega
  unfold headR
  rw [if_neg hne, List.length_take, Nat.min_eq_left (by omega), List.getD_eq_getElem?_getD, List.getD_eq_getElem?_getD, List.getElem?_take_of_lt (by omega)]
  rfl
set_option maxRecDepth 100000 in
set_option maxHeartbeats 1000000 in
/-- What was read is passed over. -/
theorem read_old (w : World) (rb vb read lost : Nat) (mark : ByteArray) (mt : Option Nat) (nt : Nat) (τ : Tab) (r : Rec) (h : TabV w rb 115 #[.pointer (some ⟨vb, 0, none⟩), .int .i64 (read : Int), .string mark, .int .i64 (lost : Int)] mt nt τ) (h1 : 1 ≤ r.q) (h2 : r.q ≤ read) :
    Calls Tryz.prog 32 #[.pointer (some ⟨rb, 0, none⟩), .agg #[.int .i64 (r.q : Int), .string r.s, .int .i64 (r.g : Int), .string r.p, .string r.d]] w fun y w' => y = .returned .nilIface ∧ Below w.heap.size w w' := by
  have bel : Below w.heap.size w (w.alloc (.cells #[.int .i64 (r.q : Int), .string r.s, .int .i64 (r.g : Int), .string r.p, .string r.d] 30)) := (Below.refl _ w).alloc (Nat.le_refl _) _
  have E0 := hide (HasR.new w 30 #[.int .i64 (r.q : Int), .string r.s, .int .i64 (r.g : Int), .string r.p, .string r.d])
  have AT := hide (at_any _ rb vb read lost mark mt nt τ (h.below bel))
  have BL := hide bel
  have hq1 := ptrR_nil rb
  have n1 : (1 : Int) ≤ (r.q : Int) := by omega
  have n2 : (r.q : Int) ≤ (read : Int) := by omega
  have d1 : decide ((1 : Int) ≤ (r.q : Int)) = true := decide_eq_true n1
  have d2 : decide ((r.q : Int) ≤ (read : Int)) = true := decide_eq_true n2
  clear h bel
  go_enter Tryz.func32, Tryz.ntmps32
  go_wp2_with (
    go_at_call 35; (with_reducible refine AT.out.mono ?_); rintro y w1 ⟨rfl, hb1⟩
    have B1 := hide (BL.out.trans (hb1.mono BL.out.size))
    have E1 := hide (E0.out.below hb1 E0.out.lt)
    have e0 : w1.cell? ⟨w.heap.size, 0, none⟩ = some (.int .i64 (r.q : Int)) := E1.out.cell 0
    clear hb1)
  go_ret
  exact ⟨rfl, B1.out⟩
set_option maxRecDepth 100000 in
set_option maxHeartbeats 1000000 in
/-- Of those ahead it reads the next one alone. -/
theorem read_order (w : World) (rb vb read lost : Nat) (mark : ByteArray) (mt : Option Nat) (nt : Nat) (τ : Tab) (r : Rec) (h : TabV w rb 115 #[.pointer (some ⟨vb, 0, none⟩), .int .i64 (read : Int), .string mark, .int .i64 (lost : Int)] mt nt τ) (h2 : read + 1 < r.q) (h3 : r.q < 1000) :
    Calls Tryz.prog 32 #[.pointer (some ⟨rb, 0, none⟩), .agg #[.int .i64 (r.q : Int), .string r.s, .int .i64 (r.g : Int), .string r.p, .string r.d]] w fun y w' => y = .returned (.iface 56 (.int .i64 10)) ∧ Below w.heap.size w w' := by
  have bel : Below w.heap.size w (w.alloc (.cells #[.int .i64 (r.q : Int), .string r.s, .int .i64 (r.g : Int), .string r.p, .string r.d] 30)) := (Below.refl _ w).alloc (Nat.le_refl _) _
  have E0 := hide (HasR.new w 30 #[.int .i64 (r.q : Int), .string r.s, .int .i64 (r.g : Int), .string r.p, .string r.d])
  have AT := hide (at_any _ rb vb read lost mark mt nt τ (h.below bel))
  have BL := hide bel
  have hq1 := ptrR_nil rb
  have n1 : (1 : Int) ≤ (r.q : Int) := by omega
  have n2 : ¬ (r.q : Int) ≤ (read : Int) := by omega
  have n3 : ¬ (r.q : Int) < 1 := by omega
  have d1 : decide ((1 : Int) ≤ (r.q : Int)) = true := decide_eq_true n1
  have d2 : decide ((r.q : Int) ≤ (read : Int)) = false := decide_eq_false n2
  have d3 : decide ((r.q : Int) < 1) = false := decide_eq_false n3
  have hwr : IntKind.i64.wrap ((r.q : Int) - 1) = (r.q : Int) - 1 := by rw [IntKind.wrap_i64]; omega
  have d4 : ((r.q : Int) - 1 != (read : Int)) = true := by simp [bne]; omega
  have n4 : ¬ (r.q : Int) - 1 = (read : Int) := by omega
  clear h bel
  go_enter Tryz.func32, Tryz.ntmps32
  go_wp2_with (
    go_at_call 35; (with_reducible refine AT.out.mono ?_); rintro y w1 ⟨rfl, hb1⟩
    have B1 := hide (BL.out.trans (hb1.mono BL.out.size))
    have E1 := hide (E0.out.below hb1 E0.out.lt)
    have e0 : w1.cell? ⟨w.heap.size, 0, none⟩ = some (.int .i64 (r.q : Int)) := E1.out.cell 0
    clear hb1)
  go_ret
  exact ⟨rfl, B1.out⟩
/-- A reader that read the first n records, all of its own blocks from Br on. -/
structure Rl (w : World) (Br B rb : Nat) (st : Hst) (n : Nat) : Prop where
  rd : ∃ mr nt mark, TabV w rb 115 #[.pointer (some ⟨B, 0, none⟩), .int .i64 (n : Int), .string mark, .int .i64 ((lostN st.ok n : Nat) : Int)] mr nt (lateT st.ok n) ∧ nt ≤ n ∧ markAt n mark = headR (st.rs.take n) ∧ ∀ m, mr = some m → Br ≤ m
  low : Br ≤ rb
theorem Rl.still {w w' : World} {Br B rb : Nat} {st : Hst} {n : Nat} (h : Rl w Br B rb st n) (b : Below w.heap.size w w') : Rl w' Br B rb st n := by
  obtain ⟨mr, nt, mark, hT, h1, h2, h3⟩ := h.rd
  exact ⟨⟨mr, nt, mark, hT.below b, h1, h2, h3⟩, h.low⟩
theorem Rl.start (w : World) (B : Nat) (st : Hst) : Rl (w.alloc (.cells #[.pointer (some ⟨B, 0, none⟩), .int .i64 0, .string ⟨#[]⟩, .int .i64 0, .map none] 115)) w.heap.size B w.heap.size st 0 :=
  ⟨⟨none, 0, ⟨#[]⟩, ⟨HasR.new w 115 _, fun _ => lateT_start st.ok, (fun m e => by cases e)⟩, Nat.le_refl _, rfl, (fun m e => by cases e)⟩, Nat.le_refl _⟩
theorem Rl.read {w : World} {Br B rb : Nat} {st : Hst} {n : Nat} (h : Rl w Br B rb st n) (hd : Did secB st) (S : ∃ mt mv v, Src B w (B + 2) (B + 1) B mt mv v st.ok.length st.ok.length secB st.σ st.τ st.rs) (T : Tabs w) (h3 : 3 < Br) (hn : st.ok.length < 100) (hk : n < st.ok.length) (hbr : Brief (st.ok.getD n ev0)) :
    Calls Tryz.prog 32 #[.pointer (some ⟨rb, 0, none⟩), .agg #[.int .i64 ((st.rs.getD n recZ).q : Int), .string (st.rs.getD n recZ).s, .int .i64 ((st.rs.getD n recZ).g : Int), .string (st.rs.getD n recZ).p, .string (st.rs.getD n recZ).d]] w fun x w' => x = .returned .nilIface ∧ Rl w' Br B rb st (n + 1) ∧ ∃ L, Stirred L w w' ∧ ∀ j ∈ L, Br ≤ j ∧ j < w.heap.size ∧ ∀ t cs, HasR w j t cs → t = 115 := by
  obtain ⟨mr, nt, mark, hT, h1, h2, h4⟩ := h.rd
  obtain ⟨mt, mv, v, hS⟩ := S
  obtain ⟨hrl, hrecs⟩ := hd.recs
  obtain ⟨hRO, hq, hp⟩ := hrecs n hk
  have hfit : Fit (st.rs.getD n recZ) := hS.fit _ (getD_mem (by omega))
  obtain ⟨x, er, hx, hO⟩ := open_either hRO hfit
  have hE : (lossB st.ok n = true ∧ er = .iface 56 (.int .i64 8)) ∨ (lossB st.ok n = false ∧ er = .nilIface ∧ rightB x = true ∧ Brief x) := by
    rcases hx with ⟨a, b, c, d⟩ | ⟨a, b, c⟩
    · exact .inl ⟨lossB_iff.2 ⟨a, b⟩, d⟩
    · refine .inr ⟨?_, c, by rw [b]; exact hRO.right, by rw [b]; exact hbr⟩
      cases hb : lossB st.ok n
      · rfl
      · exact absurd (lossB_iff.1 hb) a
  have hle := lostN_le st.ok n
  refine (read_next w rb B n (lostN st.ok n) mark mr nt (lateT st.ok n) (st.rs.getD n recZ) x er (lossB st.ok n) hT (fun wx hb => hO _ _ _ _ _ _ _ _ _ _ _ _ (hS.still hb) (T.below hb T.k.lt)) hE (by omega) (by omega) (by omega) hq (by rw [hp, h2]) hfit T.k ?_).mono ?_
  · intro j hj
    rcases List.mem_cons.1 hj with a | a
    · have := h.low; omega
    · have := h4 j (by simpa using a); omega
  · rintro y w' ⟨rfl, mr', hT', hm, hst⟩
    refine ⟨rfl, ⟨⟨mr', nt + 1, markR (st.rs.getD n recZ), ?_, by omega, ?_, fun m em => ?_⟩, h.low⟩, _, hst, fun j hj => ?_⟩
    · have e1 : (if lossB st.ok n = true then lostN st.ok n + 1 else lostN st.ok n) = lostN st.ok (n + 1) := by
        show _ = lostN st.ok n + (if lossB st.ok n = true then 1 else 0)
        split <;> rfl
      have e2 : (if lossB st.ok n = true then lateT st.ok n else app x (lateT st.ok n)) = lateT st.ok (n + 1) := by
        rw [lateT_step hd hk]
        rcases hx with ⟨a, b, c, d⟩ | ⟨a, b, c⟩
        · rw [if_pos (lossB_iff.2 ⟨a, b⟩), if_pos ⟨a, b⟩]
        · rw [if_neg (fun z => a (lossB_iff.1 z)), if_neg a, b]
      rw [e1, e2] at hT'
      exact hT'
    · rw [headR_take (by omega)]
      unfold markAt
      rw [if_neg (by omega)]
    · rcases hm with a | ⟨_, m2, a, b⟩
      · rw [a] at em
        exact h4 m em
      · rw [a] at em
        cases em
        have := hT.row.lt
        have := h.low
        omega
    · rcases List.mem_cons.1 hj with a | a
      · rw [a]
        refine ⟨h.low, hT.row.lt, fun t cs hc => ?_⟩
        by_cases ht : t = 115
        · exact ht
        · exact absurd rfl (hc.apartT hT.row ht)
      · obtain ⟨D, o, _⟩ := hT.held j (by simpa using a)
        exact ⟨h4 j (by simpa using a), o.lt, fun t cs hc => absurd rfl (hc.noMap o)⟩
theorem Rl.cells {w : World} {Br B rb : Nat} {st : Hst} {n : Nat} (h : Rl w Br B rb st n) (hn : n < 100) : Calls Tryz.prog 33 #[.pointer (some ⟨rb, 0, none⟩)] w fun x w' => ∃ u ds, x = .returned u ∧ InOrd (lateT st.ok n) ds ∧ ds.length ≤ 100 ∧ RowC w' w.heap.size u ds ∧ Below w.heap.size w w' := by
  obtain ⟨mr, nt, mark, hT, h1, h2, h4⟩ := h.rd
  refine (rdCells_any w rb B n (lostN st.ok n) mark mr nt (lateT st.ok n) hT (by omega)).mono ?_
  rintro x w' ⟨u, ds, a, b, c, d⟩
  exact ⟨u, ds, a, b, by omega, d⟩
theorem Rl.at {w : World} {Br B rb : Nat} {st : Hst} {n : Nat} (h : Rl w Br B rb st n) : Calls Tryz.prog 35 #[.pointer (some ⟨rb, 0, none⟩)] w fun x w' => x = .returned (.tuple #[.int .i64 (n : Int), .string (headR (st.rs.take n))]) ∧ Below w.heap.size w w' := by
  obtain ⟨mr, nt, mark, hT, h1, h2, h4⟩ := h.rd
  rw [← h2]
  exact at_any w rb B n (lostN st.ok n) mark mr nt (lateT st.ok n) hT
theorem Rl.lost {w : World} {Br B rb : Nat} {st : Hst} {n : Nat} (h : Rl w Br B rb st n) : Calls Tryz.prog 34 #[.pointer (some ⟨rb, 0, none⟩)] w fun x w' => x = .returned (.int .i64 ((lostN st.ok n : Nat) : Int)) ∧ w' = w := by
  obtain ⟨mr, nt, mark, hT, h1, h2, h4⟩ := h.rd
  exact lost_any w rb B n (lostN st.ok n) mark mr nt (lateT st.ok n) hT
set_option maxRecDepth 100000 in
set_option maxHeartbeats 400000 in
theorem pick_any (a : Int) (n : Nat) (h0 : 0 < n) (hn : n ≤ 1000000) (w : World) :
    Calls Tryz.prog 28 #[.int .i64 a, .int .i64 n] w fun e w' => ∃ c : Nat, c < n ∧ e = .returned (.int .i64 c) ∧ w' = w := by
  have x1 : IntKind.u64.wrap (n : Int) = (n : Int) := by rw [IntKind.wrap_u64]; omega
  have x0 : 0 ≤ IntKind.u64.wrap a := by rw [IntKind.wrap_u64]; omega
  have x00 : IntKind.u64.wrap a < 18446744073709551616 := by rw [IntKind.wrap_u64]; omega
  generalize hu : IntKind.u64.wrap a = u at x0 x00
  have x2 : 0 ≤ u % (n : Int) := Int.emod_nonneg _ (by omega)
  have x3 : u % (n : Int) < (n : Int) := Int.emod_lt_of_pos _ (by omega)
  obtain ⟨c, hc⟩ : ∃ c : Nat, u % (n : Int) = (c : Int) := ⟨(u % (n : Int)).toNat, by omega⟩
  have x4 : IntKind.i64.wrap (c : Int) = (c : Int) := by rw [IntKind.wrap_i64]; omega
  go_enter Tryz.func28, Tryz.ntmps28
  go_wp2
  go_ret
  exact ⟨c, by omega, ret_val rfl, rfl⟩
set_option maxRecDepth 100000 in
set_option maxHeartbeats 4000000 in
/-- The laws' own follow: a new reader, of the first records of a feed. -/
theorem follow_any (w : World) (B base n c : Nat) (p : Option Addr) (st : Hst) (hd : Did secB st) (S : ∃ mt mv v, Src B w (B + 2) (B + 1) B mt mv v st.ok.length st.ok.length secB st.σ st.τ st.rs) (T : Tabs w) (hn : st.ok.length < 100) (hl : n ≤ st.ok.length) (hr : w.ownsRow base 30 5 (.slice p st.ok.length c) st.ok.length (recsL st.rs)) (hbr : ∀ e ∈ st.ok, Brief e) :
    Calls Tryz.prog 29 #[.pointer (some ⟨B, 0, none⟩), .slice p n c] w fun x w' => ∃ rb, x = .returned (.tuple #[.pointer (some ⟨rb, 0, none⟩), .bool true]) ∧ Rl w' w.heap.size B rb st n ∧ Below w.heap.size w w' := by
  have TT := hide T
  have TK := T.k.lt
  have SS := hide S
  have HR := hide hr
  have HB := hide hbr
  have hDid := hide hd
  have HRL := hide hd.recs.1
  have RN := hide (rdNew_ok B w)
  have hne := nilNe
  have hpr := ptrR_nil
  have L0 := hide (Rl.start w B st)
  clear T S hr hbr hd
  go_enter Tryz.func29, Tryz.ntmps29
  go_wp2_with (go_at_call 58; (with_reducible refine RN.out.mono ?_); rintro x w6 ⟨rfl, hw6⟩; obtain rfl := hw6.symm)
  go_loopw [8] (fun i wr => ∃ k : Nat, i = .int .i64 k ∧ k ≤ n ∧ Rl wr w.heap.size B w.heap.size st k ∧ Below w.heap.size w wr) (fun i _ => n - (intOf i).toNat)
  case atStart => exact ⟨0, rfl, Nat.zero_le _, L0.out, (Below.refl _ w).alloc (Nat.le_refl _) _⟩
  case round =>
    clear L0 hpr RN
    obtain ⟨k, rfl, hk, hI, hb⟩ := hrel
    have L := hide hI
    have BB := hide hb
    clear hI hb
    by_cases hlt : k < n
    · have hks : k < st.ok.length := by omega
      obtain ⟨g, rfl, _⟩ := block_of HR.out (by omega)
      obtain ⟨f0, f1, f2, f3, f4, hgf⟩ := recs_c (ownsRow_below HR.out BB.out) HRL.out hks
      have S2 : ∃ mt mv v, Src B wr (B + 2) (B + 1) B mt mv v st.ok.length st.ok.length secB st.σ st.τ st.rs := by
        obtain ⟨mt, mv, v, hS⟩ := SS.out
        exact ⟨mt, mv, v, hS.still BB.out⟩
      have RD := hide (L.out.read hDid.out S2 (TT.out.below BB.out TK) (by omega) hn hks (HB.out _ (getD_mem hks)))
      have i1 : (k : Int) < (n : Int) := by omega
      generalize st.rs.getD k recZ = r at f0 f1 f2 f3 f4 RD
      clear S2
      go_wp2_with (
        go_at_call 32; (with_reducible refine RD.out.mono ?_); rintro x w7 ⟨rfl, hL7, L, hst, hL⟩
        have L7 := hide hL7
        have B7 := hide (BB.out.trans (hst.below BB.out.size (fun j hj => (hL j hj).1)))
        clear hL7 hst hL)
      exact ⟨⟨k + 1, by go_num, by omega, L7.out, B7.out⟩, by simp [intOf]; omega⟩
    · have ek : k = n := by omega
      subst ek
      go_wp2
      go_ret2
      exact ⟨w.heap.size, rfl, L.out, BB.out⟩
end Go.Proofs.YtkbaalenbpgheaaGreatDoor

/- Told again it is the same: events one list behind the other; records held against each other in rows; what more is told. -/
namespace Go.Proofs.YtkbaalenbpgheaaGreatDoor
open Go.RowKit Go.Sort Go.Shelf
attribute [local go_sem ↓] Go.wp_at_zero Go.wp_at_succ
set_option linter.unusedSectionVars false
variable [Inhabited Cl] [Inhabited Ev]
theorem evsL_len : ∀ es : List Ev, (evsL es).length = es.length * 5
  | [] => rfl
  | e :: es => by
    have ih := evsL_len es
    have e0 : evsL (e :: es) = evL e ++ evsL es := rfl
    have e5 : (evL e).length = 5 := rfl
    rw [e0, List.length_append, ih, e5, List.length_cons]
    omega
theorem evL_one (e : Ev) (u : Value) (h : u ∈ evL e) : u.oneCell' = true := by
  simp only [evL, List.mem_cons, List.not_mem_nil, or_false] at h
  rcases h with rfl | rfl | rfl | rfl | rfl <;> rfl
theorem evsL_one {es : List Ev} {u : Value} (h : u ∈ evsL es) : u.oneCell' = true := by
  unfold evsL at h
  obtain ⟨e, _, he⟩ := List.mem_flatMap.1 h
  exact evL_one e u he
theorem evsL_app (l m : List Ev) : evsL (l ++ m) = evsL l ++ evsL m := by simp [evsL]
theorem EvRow.news {w : World} {b off : Nat} {es : List Ev} (hx : ∀ j, j < es.length → ∀ i u, (evL es[j]!)[i]? = some u → w.cell? ⟨b, off + j * 5 + i, none⟩ = some u) (j : Nat) (u : Value) (hj : (evsL es)[j]? = some u) : w.cell? ⟨b, off + j, none⟩ = some u := by
  have hl : j < es.length * 5 := by
    have := (List.getElem?_eq_some_iff.1 hj).1
    rw [evsL_len] at this
    exact this
  have h5 : j / 5 < es.length := by omega
  have e1 : j / 5 * 5 + j % 5 = j := by omega
  have h2 := evsL_at es (j / 5) (j % 5) h5 (by omega)
  rw [e1, hj, getD_eq! h5] at h2
  have := hx (j / 5) h5 (j % 5) u h2.symm
  rw [show off + j / 5 * 5 + j % 5 = off + j by omega] at this
  exact this
/-- append(v, ms...): whatever slice the events lie in. -/
theorem app_evs {ops : Array Oper} {rest : List Oper} {o : Oper} {a : Act} {w : World} {Q : Exit → Act → World → Prop} (hgd : o.guard = none) (s x : Operand) (ho : o.op = .call { callee := .builtin .append, args := #[s, x], argTypes := #[22, 22] }) (base : Nat) (v : Value) (n : Nat) (xs : List Value) (hs : a.eval s = v) (hown : w.ownsRow base 36 5 v n xs) (vm : Value) (ms : List Ev) (hx : a.eval x = vm) (hvm : EvRow w vm ms) (h63 : n + ms.length ≤ 100000) (hbase : base ≤ w.heap.size)
    (h : ∀ v' w', w'.ownsRow base 36 5 v' (n + ms.length) (xs ++ evsL ms) → w.grownBy w' v.ownBlock → wpList Tryz.prog ops Q rest (a.put o.dst v') w') : wpList Tryz.prog ops Q (o :: rest) a w := by
  obtain ⟨i0, hi, hz0, hz1, hz2⟩ := info_parts info35
  rcases hvm with ⟨⟨ao, cap, rfl⟩, rfl⟩ | ⟨b, off, cap, rfl, hc, hb, hcells⟩
  · cases ao with
    | none =>
      obtain ⟨p, c, rfl⟩ := ownsRow_slice hown
      have hle : n ≤ c := by
        rcases hown.2 with ⟨e1, e0⟩ | ⟨g, cap', cur, e1, _, _, a1, _⟩
        · omega
        · simp only [Value.slice.injEq] at e1
          rw [e1.2.2]; exact a1
      have hrun : (Builtin.append_ #[22, 22] o.type #[.slice p n c, .slice none 0 cap]).run Tryz.prog w = .ok (.slice p n c) w := by
        cases p <;> simp [Builtin.append_, run_underlying Tryz.underlying22, sizeOf, typeInfo, hi, Builtin.lenOf, Builtin.firstCells, storeCells, hle]
      refine wpList_plain hgd fun K hK => ?_
      unfold Oper.wp execOp
      simp only [ho, resolve, invoke, builtin, Sem.run_bind, Sem.run_pure, Result.andThen_ok, List.map_toArray, List.map_cons, List.map_nil, hs, hx, hrun]
      exact hK _ _ (h _ _ (by simpa [evsL] using hown) ⟨rfl, rfl, rfl, Nat.le_refl _, fun _ _ _ => rfl⟩)
    | some ad =>
      exact wpList_append_own w hgd s x 22 ho base 36 i0 _ 5 72 Tryz.underlying22 hi hz0 hz1 hz2 rfl (by omega) v n xs hs hown ad 0 cap [] hx rfl (fun j u hj => by simp at hj) (fun u hu => by simp at hu) (by unfold maxLen; simp at h63; omega) (by simp at h63; omega) hbase (fun v' w' h1 h2 _ => h v' w' h1 h2)
  · exact wpList_append_own w hgd s x 22 ho base 36 i0 _ 5 72 Tryz.underlying22 hi hz0 hz1 hz2 rfl (by omega) v n xs hs hown ⟨b, off, none⟩ ms.length cap (evsL ms) hx (evsL_len ms) (fun j u hj => by rw [Addr.add_lit]; exact EvRow.news hcells j u hj) (fun u hu => evsL_one hu) (by unfold maxLen; omega) (by omega) hbase (fun v' w' h1 h2 _ => h v' w' h1 h2)
theorem evNil (w : World) (a : Addr) (n c : Nat) : (binOp .eql 22 (.slice (some a) n c) (.slice none 0 0)).run Tryz.prog w = .ok (.bool false) w := by kernel_rfl
theorem evNil2 (w : World) (n c : Nat) : (binOp .eql 22 (.slice none n c) (.slice none 0 0)).run Tryz.prog w = .ok (.bool true) w := by kernel_rfl
/-- What more happens adds to what was told. -/
theorem hist_more {sec : ByteArray} : ∀ (es : List Ev) (s : Hst), ∃ mo mr, (hist sec es s).ok = s.ok ++ mo ∧ (hist sec es s).rs = s.rs ++ mr
  | [], s => ⟨[], [], by simp [hist], by simp [hist]⟩
  | e :: es, s => by
    obtain ⟨mo, mr, h1, h2⟩ := hist_more (sec := sec) es (hstep sec s e)
    have e1 : hist sec (e :: es) s = hist sec es (hstep sec s e) := rfl
    rw [e1, h1, h2]
    unfold hstep
    split
    · exact ⟨e :: mo, tellR sec s.σ s.rs e :: mr, by simp, by simp⟩
    · exact ⟨mo, mr, rfl, rfl⟩
/-- A record's body is as long as what it says, and a mark. -/
theorem RecOf.size {sec : ByteArray} {σ : Kept} {e : Ev} {r : Rec} {lost : Bool} (h : RecOf sec σ e r lost) : r.d.size = (textB e).size + if e.k = 3 then 0 else 16 := by
  by_cases hk : e.k = 3
  · rw [if_pos hk, h.opn hk]; rfl
  · rw [if_neg hk, h.sl hk, sealB_size, Nat.add_comm]
theorem held44 : Tryz.prog.stoodInHeld 30 = false := by kernel_rfl
theorem fields44 : Tryz.prog.underlying 30 = some (.struct (Tryz.prog.fieldsOf 30)) := by kernel_rfl
theorem guard44 : Tryz.prog.eqGuardType Tryz.prog.depth 30 = false := by kernel_rfl
def eqR (x y : Rec) : Bool := decide ((x.q : Int) = (y.q : Int)) && ((x.s.toList == y.s.toList) && (decide ((x.g : Int) = (y.g : Int)) && ((x.p.toList == y.p.toList) && (x.d.toList == y.d.toList))))
theorem eqR_self (x : Rec) : eqR x x = true := by simp [eqR]
set_option maxRecDepth 100000 in
theorem rec_equal (x y : Rec) (w : World) : (Op.equalIn 10000 30 (.agg #[.int .i64 (x.q : Int), .string x.s, .int .i64 (x.g : Int), .string x.p, .string x.d]) (.agg #[.int .i64 (y.q : Int), .string y.s, .int .i64 (y.g : Int), .string y.p, .string y.d])).run Tryz.prog w = .ok (eqR x y) w := by
  rw [show (10000 : Nat) = 9999 + 1 from rfl, run_equalIn_agg w 9999 30 _ _ fields44 held44]
  simp only [Program.fieldsOf, Tryz.underlying30]
  unfold eqR
  go_simp
  by_cases h1 : (x.q : Int) = (y.q : Int) <;> by_cases h2 : x.s.toList = y.s.toList <;> by_cases h3 : (x.g : Int) = (y.g : Int) <;> by_cases h4 : x.p.toList = y.p.toList <;> by_cases h5 : x.d.toList = y.d.toList <;> simp [h1, h2, h3, h4, h5]
set_option maxRecDepth 100000 in
theorem rec_neq (x y : Rec) (w : World) : (binOp .neq 30 (.agg #[.int .i64 (x.q : Int), .string x.s, .int .i64 (x.g : Int), .string x.p, .string x.d]) (.agg #[.int .i64 (y.q : Int), .string y.s, .int .i64 (y.g : Int), .string y.p, .string y.d])).run Tryz.prog w = .ok (.bool (!eqR x y)) w := by
  rw [run_neq_struct, rec_equal]; rfl
set_option maxRecDepth 100000 in
theorem neqAtR : NeqAt Tryz.prog 30 (fun x => .agg (recL x).toArray) eqR := ⟨fun x y w => rec_neq x y w, GuardAt.agg _ guard44⟩
theorem isAgg44R (w : World) : (isAgg 30).run Tryz.prog w = .ok true w := by kernel_rfl
theorem sizeOf44R (w : World) : (Go.sizeOf 30).run Tryz.prog w = .ok 5 w := by kernel_rfl
theorem allEqR_self : ∀ rs : List Rec, Lib.allEq eqR rs rs = true
  | [] => rfl
  | r :: rs => by
    unfold Lib.allEq
    rw [eqR_self, allEqR_self rs]
    rfl
theorem recs_bang {rs : List Rec} {k : Nat} [Inhabited Rec] (h : k < rs.length) : rs.getD k recZ = rs[k]! := by
  rw [getElem!_pos rs k h, List.getD_eq_getElem?_getD, List.getElem?_eq_getElem h]
  rfl
end Go.Proofs.YtkbaalenbpgheaaGreatDoor

/- Bytes are followed as well: the law's own walk. -/
namespace Go.Proofs.YtkbaalenbpgheaaGreatDoor
open Go.RowKit Go.Sort
attribute [local go_sem ↓] Go.wp_at_zero Go.wp_at_succ
set_option linter.unusedSectionVars false
variable [Inhabited Cl] [Inhabited Ev]
theorem did_right {st : Hst} (hd : Did secB st) (hσ : ∀ l, (st.σ l).1 ≤ st.ok.length) (hn : st.ok.length ≤ 60) : ∀ r ∈ st.rs, RightR r := by
  intro r hr
  obtain ⟨hl, hall⟩ := hd.recs
  obtain ⟨i, hi, rfl⟩ := List.getElem_of_mem hr
  have hi2 : i < st.ok.length := by omega
  obtain ⟨hO, hq, hp⟩ := hall i hi2
  have hg : st.rs.getD i recZ = st.rs[i] := by rw [List.getD_eq_getElem?_getD, List.getElem?_eq_getElem hi]; rfl
  rw [hg] at hO hq hp
  refine ⟨by omega, by omega, ?_, ?_, by rw [hp]; exact headR_size _, ?_⟩
  · rw [hO.sub]; exact (subj_size hO.right).2
  · by_cases hk : (st.ok.getD i ev0).k = 3
    · rw [hO.gen.2 hk]; omega
    · have h1 : st.rs[i].g ≤ (st.σ st.rs[i].s.data.toList).1 := by
        cases hL : lostB (st.ok.drop (i + 1)) (st.ok.getD i ev0).s
        · rw [hO.there hk hL]; exact Nat.le_refl _
        · exact (hO.left hk hL).1
      have := hσ st.rs[i].s.data.toList
      omega
  · rw [hO.size]
    have := text_size hO.right
    split <;> omega
theorem all_wires {rs : List Rec} (h : ∀ r ∈ rs, RightR r) : AllAt (wiresL rs) rs := ⟨h, [], by rw [List.append_nil], first_nil⟩
set_option maxRecDepth 100000 in
set_option maxHeartbeats 8000000 in
theorem reads_any (v : Value) (es : List Ev) (w : World) (T : Tabs w) (hv : EvRow w v es) :
    Calls Tryz.prog 5 #[v] w fun x w' => x = .returned (.bool true) ∧ Below w.heap.size w w' := by
  have F := hide (few_any v es w hv)
  have TK := T.k.lt
  have TT := hide T
  have HV := hide hv
  obtain ⟨ao, cap, rfl⟩ := hv.slice
  clear hv T
  cases hf : fewB es
  · rw [hf] at F
    go_enter Tryz.func5, Tryz.ntmps5
    go_wp2_with (go_at_call 6; (with_reducible refine F.out.mono ?_); rintro x w1 ⟨rfl, hb1⟩)
    go_ret
    exact ⟨rfl, hb1⟩
  rw [hf] at F
  obtain ⟨h30, hbr⟩ := few_brief hf
  have BR := hide hbr
  clear hf hbr
  have hps := ptrS_nil
  have hDid := hide (Did.hist (sec := secB) es Did.none)
  have hfew := hist_few (sec := secB) es hst0
  have hf0 : hst0.ok.length = 0 := rfl
  have BRO := hide (fun e (he : e ∈ (hist secB es hst0).ok) => BR.out e (by rcases hist_sub (sec := secB) es hst0 e he with h | h; (simp [hst0] at h); (exact h)))
  have DA := hide (fun wx (hb : Below w.heap.size w wx) => done_any (.slice ao es.length cap) es wx (TT.out.below hb TK) (HV.out.turned hb (Nat.le_refl _)) (by omega) BR.out)
  generalize hist secB es hst0 = st at hDid hfew DA BRO
  have hok : st.ok.length ≤ 30 := by omega
  have HRL := hide hDid.out.recs.1
  clear hfew hf0
  go_enter Tryz.func5, Tryz.ntmps5
  go_upto_region 8 with (first
    | (go_at_call 6; (with_reducible refine F.out.mono ?_); rintro x w1 ⟨rfl, hb1⟩
       have B1 := hide hb1
       have WR := hide (written_any w1 (TT.out.below hb1 TK).k)
       clear hb1)
    | (go_at_call 36; (with_reducible refine WR.out.mono ?_); rintro x w2 ⟨rfl, hb2⟩
       have B2 := hide (B1.out.trans (hb2.mono B1.out.size))
       have F2 := hide (fed_any w2 (TT.out.below B2.out TK))
       clear hb2)
    | (go_at_call 7; (with_reducible refine F2.out.mono ?_); rintro x w4 ⟨rfl, hb2⟩
       have B4 := hide (B2.out.trans (hb2.mono B2.out.size))
       clear hb2)
    | (go_at_call 9; (with_reducible refine (DA.out _ B4.out).mono ?_); rintro x w5 ⟨vok, vrows, vals, rfl, hD, hvl, hb5⟩
       obtain ⟨mt, mv, vv, hS5, _⟩ := hD.src
       have B5 := hide (B4.out.trans (hb5.mono B4.out.size))
       have S5 := hide hS5
       have FE := hide (fun wx (hb : Below w5.heap.size w5 wx) => srcFeed_any _ wx _ _ _ _ _ _ _ _ _ _ _ _ (hS5.still hb) (by rw [HRL.out]; omega))
       clear hD hvl hb5 hS5))
  clear F DA F2 WR
  have RT := hide (did_right hDid.out S5.out.few (by omega))
  have VA := hide (fun wx (hb : Below w5.heap.size w5 wx) => srcVault_any _ wx _ _ _ _ _ _ _ _ _ _ _ _ (S5.out.still hb))
  have FO := hide (fun wx (hb : Below w5.heap.size w5 wx) base p c (hr : wx.ownsRow base 30 5 (.slice p st.ok.length c) st.ok.length (recsL st.rs)) => follow_any wx w4.heap.size base st.ok.length c p st hDid.out ⟨_, _, _, S5.out.still hb⟩ (TT.out.below (B5.out.trans (hb.mono B5.out.size)) TK) (by omega) (Nat.le_refl _) hr BRO.out)
  have BY : Hid (∀ wx, RowKit.Below w5.heap.size w5 wx → ∀ base p c, wx.ownsRow base 30 5 (.slice p st.ok.length c) st.ok.length (recsL st.rs) → Calls Tryz.prog 37 #[.slice p st.ok.length c] wx fun x w' => x = .returned (.tuple #[.string (tx (wiresL st.rs)), .bool true]) ∧ RowKit.Below wx.heap.size wx w') := hide (fun wx hb base p c hr => by
    have h := bytes_any wx base c p st.rs (TT.out.below (B5.out.trans (hb.mono B5.out.size)) TK).k (by rw [HRL.out]; exact hr) RT.out (by rw [HRL.out]; omega)
    rw [HRL.out] at h
    exact h)
  have hle := wiresL_le RT.out
  rw [HRL.out] at hle
  have hlz : (tx (wiresL st.rs)).size = (wiresL st.rs).length := rfl
  have hleN : ((wiresL st.rs).length : Int) ≤ 100000 := by omega
  have AL := hide (fun wx (hb : Below w5.heap.size w5 wx) => all_any (wiresL st.rs) (by omega) wx (TT.out.below (B5.out.trans (hb.mono B5.out.size)) TK).k)
  have AE := hide (fun rs (h : AllAt (wiresL st.rs) rs) => AllAt.eq h (all_wires RT.out))
  have hok100 : st.ok.length < 100 := by omega
  have U5 := hide (RowKit.Below.refl w5.heap.size w5)
  have F5 := hide (FE.out _ U5.out)
  clear S5 RT hle
  go_wp2_with (first
    | (go_at_call 13; (with_reducible refine F5.out.mono ?_); rintro x w6 ⟨u, rfl, hr6, hb6⟩
       rw [HRL.out] at hr6
       obtain ⟨pf, cf, rfl⟩ := ownsRow_slice hr6
       have U6 := hide hb6
       have BY6 := hide (BY.out _ hb6 _ _ _ hr6)
       clear hr6 hb6)
    | (go_at_call 37; (with_reducible refine BY6.out.mono ?_); rintro x w7 ⟨rfl, hb7⟩
       have U7 := hide (U6.out.trans (hb7.mono U6.out.size))
       have A7 := hide (AL.out _ U7.out)
       clear hb7)
    | (go_at_call 38; (with_reducible refine A7.out.mono ?_); rintro x w8 ⟨va, ra, rfl, hAll, hra, hb8⟩
       obtain rfl := AE.out _ hAll
       rw [HRL.out] at hra
       obtain ⟨pa, ca, rfl⟩ := ownsRow_slice hra
       have U8 := hide (U7.out.trans (hb8.mono U7.out.size))
       have FO8 := hide (FO.out _ U8.out _ _ _ hra)
       have V8 := hide (VA.out _ U8.out)
       clear hAll hra hb8)
    | (go_at_call 20; (with_reducible refine V8.out.mono ?_); rintro x w9 ⟨rfl, hw9⟩; obtain rfl := hw9.symm)
    | (go_at_call 29; (with_reducible refine FO8.out.mono ?_); rintro x w10 ⟨rq, rfl, hR, hb10⟩
       have U10 := hide (U8.out.trans (hb10.mono U8.out.size))
       have R10 := hide hR
       have V10 := hide (VA.out _ U10.out)
       have FE10 := hide (FE.out _ U10.out)
       clear hR hb10)
    | (go_at_call 20; (with_reducible refine V10.out.mono ?_); rintro x w11 ⟨rfl, hw11⟩; obtain rfl := hw11.symm)
    | (go_at_call 13; (with_reducible refine FE10.out.mono ?_); rintro x w12 ⟨u2, rfl, hr12, hb12⟩
       rw [HRL.out] at hr12
       obtain ⟨pg, cg, rfl⟩ := ownsRow_slice hr12
       have U12 := hide (U10.out.trans (hb12.mono U10.out.size))
       have R12 := hide (R10.out.still hb12)
       have FO12 := hide (FO.out _ U12.out _ _ _ hr12)
       clear hr12 hb12)
    | (go_at_call 29; (with_reducible refine FO12.out.mono ?_); rintro x w13 ⟨rb, rfl, hR, hb13⟩
       have U13 := hide (U12.out.trans (hb13.mono U12.out.size))
       have A13 := hide (R12.out.still hb13)
       have B13 := hide hR
       have C13 := hide (A13.out.cells hok100)
       clear hR hb13)
    | (go_at_call 33; (with_reducible refine C13.out.mono ?_); rintro x w14 ⟨u3, dz, rfl, ho, hl2, hr, hb⟩
       have U14 := hide (U13.out.trans (hb.mono U13.out.size))
       have A14 := hide (A13.out.still hb)
       have B14 := hide (B13.out.still hb)
       have O14 := hide ho
       have W14 := hide hr
       have C14 := hide (B14.out.cells hok100)
       clear ho hr hb)
    | (go_at_call 33; (with_reducible refine C14.out.mono ?_); rintro x w15 ⟨u4, dz2, rfl, ho, hl3, hr, hb⟩
       obtain rfl := ho.eq O14.out
       have U15 := hide (U14.out.trans (hb.mono U14.out.size))
       have A15 := hide (A14.out.still hb)
       have B15 := hide (B14.out.still hb)
       have E15 := hide (equal_any _ _ _ _ dz2 w15 (W14.out.below hb (Nat.le_refl _)) hr (by omega))
       clear ho hr hb)
    | (go_at_call 15; (with_reducible refine E15.out.mono ?_); rintro x w16 ⟨rfl, hb⟩
       have U16 := hide (U15.out.trans (hb.mono U15.out.size))
       have X16 := hide ((A15.out.still hb).lost)
       have Y16 := hide ((B15.out.still hb).lost)
       clear hb)
    | (go_at_call 34; (with_reducible refine X16.out.mono ?_); rintro x w25 ⟨rfl, hw25⟩; obtain rfl := hw25.symm)
    | (go_at_call 34; (with_reducible refine Y16.out.mono ?_); rintro x w26 ⟨rfl, hw26⟩; obtain rfl := hw26.symm))
  go_ret
  exact ⟨rfl, B5.out.trans (U16.out.mono B5.out.size)⟩
end Go.Proofs.YtkbaalenbpgheaaGreatDoor
