/- Texts of this proof, one behind the other. -/
import Derived.Test.YtbmiheebhinbpaaGreatDoorPart33
/- Who comes late has what is left: a reader of a feed to which all happened already. -/
namespace Go.Proofs.YtbmiheebhinbpaaGreatDoor
open Go.RowKit Go.Sort
attribute [local go_sem ↓] Go.wp_at_zero Go.wp_at_succ
set_option linter.unusedSectionVars false
variable [Inhabited Cl] [Inhabited Ev]
/-- Is a record lost to who comes late, and how many are. -/
def lossB (ok : List Ev) (k : Nat) : Bool := !decide ((ok.getD k ev0).k = 3) && lostB (ok.drop (k + 1)) (ok.getD k ev0).s
def lostN (ok : List Ev) : Nat → Nat
  | 0 => 0
  | k + 1 => lostN ok k + if lossB ok k = true then 1 else 0
theorem lostN_le (ok : List Ev) : ∀ k, lostN ok k ≤ k
  | 0 => Nat.le_refl 0
  | k + 1 => by
    have := lostN_le ok k
    show lostN ok k + (if lossB ok k = true then 1 else 0) ≤ k + 1
    split <;> omega
theorem lossB_iff {ok : List Ev} {k : Nat} : lossB ok k = true ↔ (ok.getD k ev0).k ≠ 3 ∧ lostB (ok.drop (k + 1)) (ok.getD k ev0).s = true := by
  unfold lossB
  rw [Bool.and_eq_true, Bool.not_eq_true', decide_eq_false_iff_not]
theorem headR_take {rs : List Rec} {k : Nat} (h : k < rs.length) : headR (rs.take (k + 1)) = markR (rs.getD k recZ) := by
  have hne : ¬ rs.take (k + 1) = [] := fun e => by
    have := congrArg List.length e
    rw [List.length_take, List.length_nil, Nat.min_eq_left (by omega)] at this
    omega
  unfold headR
  rw [if_neg hne, List.length_take, Nat.min_eq_left (by omega), List.getD_eq_getElem?_getD, List.getD_eq_getElem?_getD, List.getElem?_take_of_lt (by omega)]
  rfl
set_option maxRecDepth 100000 in
set_option maxHeartbeats 1000000 in
/-- What was read is passed over. -/
theorem read_old (w : World) (rb vb read lost : Nat) (mark : ByteArray) (mt : Option Nat) (nt : Nat) (τ : Tab) (r : Rec) (h : TabV w rb 124 #[.pointer (some ⟨vb, 0, none⟩), .int .i64 (read : Int), .string mark, .int .i64 (lost : Int)] mt nt τ) (h1 : 1 ≤ r.q) (h2 : r.q ≤ read) :
    Calls Tryz.prog 43 #[.pointer (some ⟨rb, 0, none⟩), .agg #[.int .i64 (r.q : Int), .string r.s, .int .i64 (r.g : Int), .string r.p, .string r.d]] w fun y w' => y = .returned .nilIface ∧ Below w.heap.size w w' := by
  have bel : Below w.heap.size w (w.alloc (.cells #[.int .i64 (r.q : Int), .string r.s, .int .i64 (r.g : Int), .string r.p, .string r.d] 44)) := (Below.refl _ w).alloc (Nat.le_refl _) _
  have E0 := hide (HasR.new w 44 #[.int .i64 (r.q : Int), .string r.s, .int .i64 (r.g : Int), .string r.p, .string r.d])
  have AT := hide (at_any _ rb vb read lost mark mt nt τ (h.below bel))
  have BL := hide bel
  have hq1 := ptrR_nil rb
  have n1 : (1 : Int) ≤ (r.q : Int) := by omega
  have n2 : (r.q : Int) ≤ (read : Int) := by omega
  have d1 : decide ((1 : Int) ≤ (r.q : Int)) = true := decide_eq_true n1
  have d2 : decide ((r.q : Int) ≤ (read : Int)) = true := decide_eq_true n2
  clear h bel
  go_enter Tryz.func43, Tryz.ntmps43
  go_wp2_with (
    go_at_call 45; (with_reducible refine AT.out.mono ?_); rintro y w1 ⟨rfl, hb1⟩
    have B1 := hide (BL.out.trans (hb1.mono BL.out.size))
    have E1 := hide (E0.out.below hb1 E0.out.lt)
    have e0 : w1.cell? ⟨w.heap.size, 0, none⟩ = some (.int .i64 (r.q : Int)) := E1.out.cell 0
    clear hb1)
  go_ret
  exact ⟨rfl, B1.out⟩
set_option maxRecDepth 100000 in
set_option maxHeartbeats 1000000 in
/-- Of those ahead it reads the next one alone. -/
theorem read_order (w : World) (rb vb read lost : Nat) (mark : ByteArray) (mt : Option Nat) (nt : Nat) (τ : Tab) (r : Rec) (h : TabV w rb 124 #[.pointer (some ⟨vb, 0, none⟩), .int .i64 (read : Int), .string mark, .int .i64 (lost : Int)] mt nt τ) (h2 : read + 1 < r.q) (h3 : r.q < 1000) :
    Calls Tryz.prog 43 #[.pointer (some ⟨rb, 0, none⟩), .agg #[.int .i64 (r.q : Int), .string r.s, .int .i64 (r.g : Int), .string r.p, .string r.d]] w fun y w' => y = .returned (.iface 45 (.int .i64 10)) ∧ Below w.heap.size w w' := by
  have bel : Below w.heap.size w (w.alloc (.cells #[.int .i64 (r.q : Int), .string r.s, .int .i64 (r.g : Int), .string r.p, .string r.d] 44)) := (Below.refl _ w).alloc (Nat.le_refl _) _
  have E0 := hide (HasR.new w 44 #[.int .i64 (r.q : Int), .string r.s, .int .i64 (r.g : Int), .string r.p, .string r.d])
  have AT := hide (at_any _ rb vb read lost mark mt nt τ (h.below bel))
  have BL := hide bel
  have hq1 := ptrR_nil rb
  have n1 : (1 : Int) ≤ (r.q : Int) := by omega
  have n2 : ¬ (r.q : Int) ≤ (read : Int) := by omega
  have n3 : ¬ (r.q : Int) < 1 := by omega
  have d1 : decide ((1 : Int) ≤ (r.q : Int)) = true := decide_eq_true n1
  have d2 : decide ((r.q : Int) ≤ (read : Int)) = false := decide_eq_false n2
  have d3 : decide ((r.q : Int) < 1) = false := decide_eq_false n3
  have hwr : IntKind.i64.wrap ((r.q : Int) - 1) = (r.q : Int) - 1 := by rw [IntKind.wrap_i64]; omega
  have d4 : ((r.q : Int) - 1 != (read : Int)) = true := by simp [bne]; omega
  have n4 : ¬ (r.q : Int) - 1 = (read : Int) := by omega
  clear h bel
  go_enter Tryz.func43, Tryz.ntmps43
  go_wp2_with (
    go_at_call 45; (with_reducible refine AT.out.mono ?_); rintro y w1 ⟨rfl, hb1⟩
    have B1 := hide (BL.out.trans (hb1.mono BL.out.size))
    have E1 := hide (E0.out.below hb1 E0.out.lt)
    have e0 : w1.cell? ⟨w.heap.size, 0, none⟩ = some (.int .i64 (r.q : Int)) := E1.out.cell 0
    clear hb1)
  go_ret
  exact ⟨rfl, B1.out⟩
/-- A reader that read the first n records, all of its own blocks from Br on. -/
structure Rl (w : World) (Br B rb : Nat) (st : Hst) (n : Nat) : Prop where
  rd : ∃ mr nt mark, TabV w rb 124 #[.pointer (some ⟨B, 0, none⟩), .int .i64 (n : Int), .string mark, .int .i64 ((lostN st.ok n : Nat) : Int)] mr nt (lateT st.ok n) ∧ nt ≤ n ∧ markAt n mark = headR (st.rs.take n) ∧ ∀ m, mr = some m → Br ≤ m
  low : Br ≤ rb
theorem Rl.still {w w' : World} {Br B rb : Nat} {st : Hst} {n : Nat} (h : Rl w Br B rb st n) (b : Below w.heap.size w w') : Rl w' Br B rb st n := by
  obtain ⟨mr, nt, mark, hT, h1, h2, h3⟩ := h.rd
  exact ⟨⟨mr, nt, mark, hT.below b, h1, h2, h3⟩, h.low⟩
theorem Rl.start (w : World) (B : Nat) (st : Hst) : Rl (w.alloc (.cells #[.pointer (some ⟨B, 0, none⟩), .int .i64 0, .string ⟨#[]⟩, .int .i64 0, .map none] 124)) w.heap.size B w.heap.size st 0 :=
  ⟨⟨none, 0, ⟨#[]⟩, ⟨HasR.new w 124 _, fun _ => lateT_start st.ok, (fun m e => by cases e)⟩, Nat.le_refl _, rfl, (fun m e => by cases e)⟩, Nat.le_refl _⟩
theorem Rl.read {w : World} {Br B rb : Nat} {st : Hst} {n : Nat} (h : Rl w Br B rb st n) (hd : Did secB st) (S : ∃ mt mv v, Src B w (B + 2) (B + 1) B mt mv v st.ok.length st.ok.length secB st.σ st.τ st.rs) (T : Tabs w) (h3 : 3 < Br) (hn : st.ok.length < 100) (hk : n < st.ok.length) (hbr : Brief (st.ok.getD n ev0)) :
    Calls Tryz.prog 43 #[.pointer (some ⟨rb, 0, none⟩), .agg #[.int .i64 ((st.rs.getD n recZ).q : Int), .string (st.rs.getD n recZ).s, .int .i64 ((st.rs.getD n recZ).g : Int), .string (st.rs.getD n recZ).p, .string (st.rs.getD n recZ).d]] w fun x w' => x = .returned .nilIface ∧ Rl w' Br B rb st (n + 1) ∧ ∃ L, Stirred L w w' ∧ ∀ j ∈ L, Br ≤ j ∧ j < w.heap.size := by
  obtain ⟨mr, nt, mark, hT, h1, h2, h4⟩ := h.rd
  obtain ⟨mt, mv, v, hS⟩ := S
  obtain ⟨hrl, hrecs⟩ := hd.recs
  obtain ⟨hRO, hq, hp⟩ := hrecs n hk
  have hfit : Fit (st.rs.getD n recZ) := hS.fit _ (getD_mem (by omega))
  obtain ⟨x, er, hx, hO⟩ := open_either hRO hfit
  have hE : (lossB st.ok n = true ∧ er = .iface 45 (.int .i64 8)) ∨ (lossB st.ok n = false ∧ er = .nilIface ∧ rightB x = true ∧ Brief x) := by
    rcases hx with ⟨a, b, c, d⟩ | ⟨a, b, c⟩
    · exact .inl ⟨lossB_iff.2 ⟨a, b⟩, d⟩
    · refine .inr ⟨?_, c, by rw [b]; exact hRO.right, by rw [b]; exact hbr⟩
      cases hb : lossB st.ok n
      · rfl
      · exact absurd (lossB_iff.1 hb) a
  have hle := lostN_le st.ok n
  refine (read_next w rb B n (lostN st.ok n) mark mr nt (lateT st.ok n) (st.rs.getD n recZ) x er (lossB st.ok n) hT (fun wx hb => hO _ _ _ _ _ _ _ _ _ _ _ _ (hS.still hb) (T.below hb T.k.lt)) hE (by omega) (by omega) (by omega) hq (by rw [hp, h2]) hfit T.k ?_).mono ?_
  · intro j hj
    rcases List.mem_cons.1 hj with a | a
    · have := h.low; omega
    · have := h4 j (by simpa using a); omega
  · rintro y w' ⟨rfl, mr', hT', hm, hst⟩
    refine ⟨rfl, ⟨⟨mr', nt + 1, markR (st.rs.getD n recZ), ?_, by omega, ?_, fun m em => ?_⟩, h.low⟩, _, hst, fun j hj => ?_⟩
    · have e1 : (if lossB st.ok n = true then lostN st.ok n + 1 else lostN st.ok n) = lostN st.ok (n + 1) := by
        show _ = lostN st.ok n + (if lossB st.ok n = true then 1 else 0)
        split <;> rfl
      have e2 : (if lossB st.ok n = true then lateT st.ok n else app x (lateT st.ok n)) = lateT st.ok (n + 1) := by
        rw [lateT_step hd hk]
        rcases hx with ⟨a, b, c, d⟩ | ⟨a, b, c⟩
        · rw [if_pos (lossB_iff.2 ⟨a, b⟩), if_pos ⟨a, b⟩]
        · rw [if_neg (fun z => a (lossB_iff.1 z)), if_neg a, b]
      rw [e1, e2] at hT'
      exact hT'
    · rw [headR_take (by omega)]
      unfold markAt
      rw [if_neg (by omega)]
    · rcases hm with a | ⟨_, m2, a, b⟩
      · rw [a] at em
        exact h4 m em
      · rw [a] at em
        cases em
        have := hT.row.lt
        have := h.low
        omega
    · rcases List.mem_cons.1 hj with a | a
      · rw [a]; exact ⟨h.low, hT.row.lt⟩
      · obtain ⟨D, o, _⟩ := hT.held j (by simpa using a)
        exact ⟨h4 j (by simpa using a), o.lt⟩
theorem Rl.cells {w : World} {Br B rb : Nat} {st : Hst} {n : Nat} (h : Rl w Br B rb st n) (hn : n < 100) : Calls Tryz.prog 44 #[.pointer (some ⟨rb, 0, none⟩)] w fun x w' => ∃ u ds, x = .returned u ∧ InOrd (lateT st.ok n) ds ∧ ds.length ≤ 100 ∧ RowC w' w.heap.size u ds ∧ Below w.heap.size w w' := by
  obtain ⟨mr, nt, mark, hT, h1, h2, h4⟩ := h.rd
  refine (rdCells_any w rb B n (lostN st.ok n) mark mr nt (lateT st.ok n) hT (by omega)).mono ?_
  rintro x w' ⟨u, ds, a, b, c, d⟩
  exact ⟨u, ds, a, b, by omega, d⟩
theorem Rl.at {w : World} {Br B rb : Nat} {st : Hst} {n : Nat} (h : Rl w Br B rb st n) : Calls Tryz.prog 45 #[.pointer (some ⟨rb, 0, none⟩)] w fun x w' => x = .returned (.tuple #[.int .i64 (n : Int), .string (headR (st.rs.take n))]) ∧ Below w.heap.size w w' := by
  obtain ⟨mr, nt, mark, hT, h1, h2, h4⟩ := h.rd
  rw [← h2]
  exact at_any w rb B n (lostN st.ok n) mark mr nt (lateT st.ok n) hT
theorem Rl.lost {w : World} {Br B rb : Nat} {st : Hst} {n : Nat} (h : Rl w Br B rb st n) : Calls Tryz.prog 46 #[.pointer (some ⟨rb, 0, none⟩)] w fun x w' => x = .returned (.int .i64 ((lostN st.ok n : Nat) : Int)) ∧ w' = w := by
  obtain ⟨mr, nt, mark, hT, h1, h2, h4⟩ := h.rd
  exact lost_any w rb B n (lostN st.ok n) mark mr nt (lateT st.ok n) hT
set_option maxRecDepth 100000 in
set_option maxHeartbeats 400000 in
theorem pick_any (a : Int) (n : Nat) (h0 : 0 < n) (hn : n ≤ 1000000) (w : World) :
    Calls Tryz.prog 51 #[.int .i64 a, .int .i64 n] w fun e w' => ∃ c : Nat, c < n ∧ e = .returned (.int .i64 c) ∧ w' = w := by
  have x1 : IntKind.u64.wrap (n : Int) = (n : Int) := by rw [IntKind.wrap_u64]; omega
  have x0 : 0 ≤ IntKind.u64.wrap a := by rw [IntKind.wrap_u64]; omega
  have x00 : IntKind.u64.wrap a < 18446744073709551616 := by rw [IntKind.wrap_u64]; omega
  generalize hu : IntKind.u64.wrap a = u at x0 x00
  have x2 : 0 ≤ u % (n : Int) := Int.emod_nonneg _ (by omega)
  have x3 : u % (n : Int) < (n : Int) := Int.emod_lt_of_pos _ (by omega)
  obtain ⟨c, hc⟩ : ∃ c : Nat, u % (n : Int) = (c : Int) := ⟨(u % (n : Int)).toNat, by omega⟩
  have x4 : IntKind.i64.wrap (c : Int) = (c : Int) := by rw [IntKind.wrap_i64]; omega
  go_enter Tryz.func51, Tryz.ntmps51
  go_wp2
  go_ret
  exact ⟨c, by omega, ret_val rfl, rfl⟩
set_option maxRecDepth 100000 in
set_option maxHeartbeats 4000000 in
/-- The laws' own follow: a new reader, of the first records of a feed. -/
theorem follow_any (w : World) (B base n c : Nat) (p : Option Addr) (st : Hst) (hd : Did secB st) (S : ∃ mt mv v, Src B w (B + 2) (B + 1) B mt mv v st.ok.length st.ok.length secB st.σ st.τ st.rs) (T : Tabs w) (hn : st.ok.length < 100) (hl : n ≤ st.ok.length) (hr : w.ownsRow base 44 5 (.slice p st.ok.length c) st.ok.length (recsL st.rs)) (hbr : ∀ e ∈ st.ok, Brief e) :
    Calls Tryz.prog 52 #[.pointer (some ⟨B, 0, none⟩), .slice p n c] w fun x w' => ∃ rb, x = .returned (.tuple #[.pointer (some ⟨rb, 0, none⟩), .bool true]) ∧ Rl w' w.heap.size B rb st n ∧ Below w.heap.size w w' := by
  have TT := hide T
  have TK := T.k.lt
  have SS := hide S
  have HR := hide hr
  have HB := hide hbr
  have hDid := hide hd
  have HRL := hide hd.recs.1
  have RN := hide (rdNew_ok B w)
  have hne := nilNe
  have hpr := ptrR_nil
  have L0 := hide (Rl.start w B st)
  clear T S hr hbr hd
  go_enter Tryz.func52, Tryz.ntmps52
  go_wp2_with (go_at_call 42; (with_reducible refine RN.out.mono ?_); rintro x w6 ⟨rfl, hw6⟩; obtain rfl := hw6.symm)
  go_loopw [8] (fun i wr => ∃ k : Nat, i = .int .i64 k ∧ k ≤ n ∧ Rl wr w.heap.size B w.heap.size st k ∧ Below w.heap.size w wr) (fun i _ => n - (intOf i).toNat)
  case atStart => exact ⟨0, rfl, Nat.zero_le _, L0.out, (Below.refl _ w).alloc (Nat.le_refl _) _⟩
  case round =>
    clear L0 hpr RN
    obtain ⟨k, rfl, hk, hI, hb⟩ := hrel
    have L := hide hI
    have BB := hide hb
    clear hI hb
    by_cases hlt : k < n
    · have hks : k < st.ok.length := by omega
      obtain ⟨g, rfl, _⟩ := block_of HR.out (by omega)
      obtain ⟨f0, f1, f2, f3, f4, hgf⟩ := recs_c (ownsRow_below HR.out BB.out) HRL.out hks
      have S2 : ∃ mt mv v, Src B wr (B + 2) (B + 1) B mt mv v st.ok.length st.ok.length secB st.σ st.τ st.rs := by
        obtain ⟨mt, mv, v, hS⟩ := SS.out
        exact ⟨mt, mv, v, hS.still BB.out⟩
      have RD := hide (L.out.read hDid.out S2 (TT.out.below BB.out TK) (by omega) hn hks (HB.out _ (getD_mem hks)))
      have i1 : (k : Int) < (n : Int) := by omega
      generalize st.rs.getD k recZ = r at f0 f1 f2 f3 f4 RD
      clear S2
      go_wp2_with (
        go_at_call 43; (with_reducible refine RD.out.mono ?_); rintro x w7 ⟨rfl, hL7, L, hst, hL⟩
        have L7 := hide hL7
        have B7 := hide (BB.out.trans (hst.below BB.out.size (fun j hj => (hL j hj).1)))
        clear hL7 hst hL)
      exact ⟨⟨k + 1, by go_num, by omega, L7.out, B7.out⟩, by simp [intOf]; omega⟩
    · have ek : k = n := by omega
      subst ek
      go_wp2
      go_ret2
      exact ⟨w.heap.size, rfl, L.out, BB.out⟩
end Go.Proofs.YtbmiheebhinbpaaGreatDoor

/- What was read is read: the law's own walk. -/
namespace Go.Proofs.YtbmiheebhinbpaaGreatDoor
open Go.RowKit Go.Sort
attribute [local go_sem ↓] Go.wp_at_zero Go.wp_at_succ
set_option linter.unusedSectionVars false
variable [Inhabited Cl] [Inhabited Ev]
/-- Numbers in a row of memory. -/
def IntRow (w : World) (v : Value) (zs : List Int) : Prop :=
  ((∃ ao cap, v = .slice ao 0 cap) ∧ zs = []) ∨ ∃ b off cap, v = .slice (some ⟨b, off, none⟩) zs.length cap ∧ zs.length ≤ cap ∧ ∀ j, j < zs.length → w.cell? ⟨b, off + j, none⟩ = some (.int .i64 (zs.getD j 0))
theorem IntRow.slice {w : World} {v : Value} {zs : List Int} (h : IntRow w v zs) : ∃ ao cap, v = .slice ao zs.length cap := by
  rcases h with ⟨⟨ao, cap, rfl⟩, rfl⟩ | ⟨b, off, cap, rfl, _⟩
  · exact ⟨_, _, rfl⟩
  · exact ⟨_, _, rfl⟩
theorem IntRow.spot {w wx : World} {ao : Option Addr} {n cap k B : Nat} {zs : List Int} (h : IntRow w (.slice ao n cap) zs) (hk : k < zs.length) (hb : Below B w wx) (hB : w.heap.size ≤ B) : ∃ b off, ao = some ⟨b, off, none⟩ ∧ zs.length ≤ cap ∧ wx.cell? ⟨b, off + k, none⟩ = some (.int .i64 (zs.getD k 0)) := by
  rcases h with ⟨_, rfl⟩ | ⟨b, off, cap', hv, hc, hx⟩
  · simp at hk
  · simp only [Value.slice.injEq] at hv
    have h1 := hx k hk
    have lt : b < w.heap.size := block_lt_of_cell h1
    exact ⟨b, off, hv.1, by rw [hv.2.2]; exact hc, (hb.cell (p := ⟨b, off + k, none⟩) (by show b < B; omega)).trans h1⟩
/-- What the loop has: a source to which all happened, its records, a reader of the first n of them. -/
structure Ra (w0 w : World) (B Br rb : Nat) (st : Hst) (n base : Nat) (vf : Value) : Prop where
  src : ∃ mt mv v, Src B w (B + 2) (B + 1) B mt mv v st.ok.length st.ok.length secB st.σ st.τ st.rs ∧ ∀ j ∈ ownS (B + 2) (B + 1) B mt mv v, j < Br
  fd : w.ownsRow base 44 5 vf st.ok.length (recsL st.rs)
  fdl : ∀ g, vf.ownBlock = some g → g < Br
  rl : Rl w Br B rb st n
  bel : Below w0.heap.size w0 w
theorem Ra.still {w0 w w' : World} {B Br rb : Nat} {st : Hst} {n base : Nat} {vf : Value} (h : Ra w0 w B Br rb st n base vf) (b : Below w.heap.size w w') : Ra w0 w' B Br rb st n base vf := by
  obtain ⟨mt, mv, v, hS, hl⟩ := h.src
  exact ⟨⟨mt, mv, v, hS.still b, hl⟩, ownsRow_below h.fd b, h.fdl, h.rl.still b, h.bel.trans (b.mono h.bel.size)⟩
theorem Ra.bare {w0 w : World} {B Br rb : Nat} {st : Hst} {n base : Nat} {vf : Value} (h : Ra w0 w B Br rb st n base vf) : ∃ mt mv v, Src B w (B + 2) (B + 1) B mt mv v st.ok.length st.ok.length secB st.σ st.τ st.rs := by
  obtain ⟨mt, mv, v, hS, _⟩ := h.src
  exact ⟨mt, mv, v, hS⟩
theorem Ra.vault {w0 w : World} {B Br rb : Nat} {st : Hst} {n base : Nat} {vf : Value} (h : Ra w0 w B Br rb st n base vf) : Calls Tryz.prog 20 #[.pointer (some ⟨B + 2, 0, none⟩)] w fun x w' => x = .returned (.pointer (some ⟨B, 0, none⟩)) ∧ w' = w := by
  obtain ⟨mt, mv, v, hS, _⟩ := h.src
  exact srcVault_any _ w _ _ _ _ _ _ _ _ _ _ _ _ hS
theorem Ra.read {w0 w : World} {B Br rb : Nat} {st : Hst} {n base : Nat} {vf : Value} (h : Ra w0 w B Br rb st n base vf) (hw : w0.heap.size ≤ Br) (hd : Did secB st) (T : Tabs w) (h3 : 3 < Br) (hn : st.ok.length < 100) (hk : n < st.ok.length) (hbr : Brief (st.ok.getD n ev0)) :
    Calls Tryz.prog 43 #[.pointer (some ⟨rb, 0, none⟩), .agg #[.int .i64 ((st.rs.getD n recZ).q : Int), .string (st.rs.getD n recZ).s, .int .i64 ((st.rs.getD n recZ).g : Int), .string (st.rs.getD n recZ).p, .string (st.rs.getD n recZ).d]] w fun x w' => x = .returned .nilIface ∧ Ra w0 w' B Br rb st (n + 1) base vf := by
  obtain ⟨mt, mv, v, hS, hl⟩ := h.src
  refine (h.rl.read hd ⟨mt, mv, v, hS⟩ T h3 hn hk hbr).mono ?_
  rintro x w' ⟨rfl, hR, L, hst, hL⟩
  refine ⟨rfl, ⟨mt, mv, v, hS.turned hst (fun j hj hm => ?_), hl⟩, ownsRow_turned h.fd hst (fun g hg hm => ?_), h.fdl, hR, h.bel.trans (hst.below h.bel.size (fun j hj => Nat.le_trans hw (hL j hj).1))⟩
  · have a := hl j hj
    have b := (hL j hm).1
    omega
  · have a := h.fdl g hg
    have b := (hL g hm).1
    omega
theorem Ra.old {w0 w : World} {B Br rb : Nat} {st : Hst} {n base : Nat} {vf : Value} (h : Ra w0 w B Br rb st n base vf) (r : Rec) (h1 : 1 ≤ r.q) (h2 : r.q ≤ n) :
    Calls Tryz.prog 43 #[.pointer (some ⟨rb, 0, none⟩), .agg #[.int .i64 (r.q : Int), .string r.s, .int .i64 (r.g : Int), .string r.p, .string r.d]] w fun x w' => x = .returned .nilIface ∧ Below w.heap.size w w' := by
  obtain ⟨mr, nt, mark, hT, _⟩ := h.rl.rd
  exact read_old w rb B n _ mark mr nt _ r hT h1 h2
theorem Ra.order {w0 w : World} {B Br rb : Nat} {st : Hst} {n base : Nat} {vf : Value} (h : Ra w0 w B Br rb st n base vf) (r : Rec) (h1 : n + 1 < r.q) (h2 : r.q < 1000) :
    Calls Tryz.prog 43 #[.pointer (some ⟨rb, 0, none⟩), .agg #[.int .i64 (r.q : Int), .string r.s, .int .i64 (r.g : Int), .string r.p, .string r.d]] w fun x w' => x = .returned (.iface 45 (.int .i64 10)) ∧ Below w.heap.size w w' := by
  obtain ⟨mr, nt, mark, hT, _⟩ := h.rl.rd
  exact read_order w rb B n _ mark mr nt _ r hT h1 h2
set_option maxRecDepth 100000 in
set_option maxHeartbeats 8000000 in
theorem ragain_any (v : Value) (es : List Ev) (vz : Value) (zs : List Int) (w : World) (T : Tabs w) (hv : EvRow w v es) (hz : IntRow w vz zs) :
    Calls Tryz.prog 10 #[v, vz] w fun x w' => x = .returned (.bool true) ∧ Below w.heap.size w w' := by
  have F := hide (few_any v es w hv)
  have TK := T.k.lt
  have TT := hide T
  have HV := hide hv
  have HZ := hide hz
  obtain ⟨ao, cap, rfl⟩ := hv.slice
  obtain ⟨az, cz, rfl⟩ := hz.slice
  clear hv T hz
  cases hf : fewB es
  · rw [hf] at F
    go_enter Tryz.func10, Tryz.ntmps10
    go_wp2_with (go_at_call 12; (with_reducible refine F.out.mono ?_); rintro x w1 ⟨rfl, hb1⟩)
    go_ret
    exact ⟨rfl, hb1⟩
  · rw [hf] at F
    obtain ⟨h30, hbr⟩ := few_brief hf
    have BR := hide hbr
    clear hf hbr
    by_cases h60 : 60 < zs.length
    · have d1 : decide ((60 : Int) < (zs.length : Int)) = true := decide_eq_true (by omega)
      have d2 : (60 : Int) < (zs.length : Int) := by omega
      go_enter Tryz.func10, Tryz.ntmps10
      go_wp2_with (go_at_call 12; (with_reducible refine F.out.mono ?_); rintro x w1 ⟨rfl, hb1⟩)
      go_ret
      exact ⟨rfl, hb1⟩
    · have d1 : decide ((60 : Int) < (zs.length : Int)) = false := decide_eq_false (by omega)
      have d2 : ¬ (60 : Int) < (zs.length : Int) := by omega
      have hps := ptrS_nil
      have hpr := ptrR_nil
      have hne := nilNe
      have hDid := hide (Did.hist (sec := secB) es Did.none)
      have hfew := hist_few (sec := secB) es hst0
      have hf0 : hst0.ok.length = 0 := rfl
      have BRO := hide (fun e (he : e ∈ (hist secB es hst0).ok) => BR.out e (by rcases hist_sub (sec := secB) es hst0 e he with h | h; (simp [hst0] at h); (exact h)))
      have DA := hide (fun wx (hb : Below w.heap.size w wx) => done_any (.slice ao es.length cap) es wx (TT.out.below hb TK) (HV.out.turned hb (Nat.le_refl _)) (by omega) BR.out)
      generalize hist secB es hst0 = st at hDid hfew DA BRO
      have hok : st.ok.length ≤ 30 := by omega
      have HRL := hide hDid.out.recs.1
      have HQ := hide (fun k hk => (hDid.out.recs.2 k hk).2.1)
      clear hfew hf0
      go_enter Tryz.func10, Tryz.ntmps10
      go_wp2_with (first
        | (go_at_call 12; (with_reducible refine F.out.mono ?_); rintro x w1 ⟨rfl, hb1⟩
           have B1 := hide hb1
           have F2 := hide (fed_any w1 (TT.out.below hb1 TK))
           clear hb1)
        | (go_at_call 13; (with_reducible refine F2.out.mono ?_); rintro x w3 ⟨rfl, hb2⟩
           have B3 := hide (B1.out.trans (hb2.mono B1.out.size))
           clear hb2)
        | (go_at_call 14; (with_reducible refine (DA.out _ B3.out).mono ?_); rintro x w4 ⟨vok, vrows, vals, rfl, hD, hvl, hb4⟩
           have B4 := hide (B3.out.trans (hb4.mono B3.out.size))
           have D4 := hide hD
           obtain ⟨mt, mv, vv, hS, _⟩ := D4.out.src
           have FE := hide (srcFeed_any _ _ _ _ _ _ _ _ _ _ _ _ _ _ hS (by rw [HRL.out]; omega))
           clear hD hb4 hS)
        | (go_at_call 15; (with_reducible refine FE.out.mono ?_); rintro x w5 ⟨vf, rfl, hr5, hb5⟩
           rw [HRL.out] at hr5
           have B5 := hide (B4.out.trans (hb5.mono B4.out.size))
           obtain ⟨mt, mv, vv, hS, _⟩ := (D4.out.still hb5).src
           have VA := hide (srcVault_any _ w5 _ _ _ _ _ _ _ _ _ _ _ _ hS)
           have RN := hide (rdNew_ok w3.heap.size w5)
           have Z5 := (Below.refl _ w5).alloc (Nat.le_refl _) (.cells #[.pointer (some ⟨w3.heap.size, 0, none⟩), .int .i64 0, .string ⟨#[]⟩, .int .i64 0, .map none] 124)
           have L0 := hide (Ra.mk (w0 := w) (B := w3.heap.size) ⟨mt, mv, vv, hS.still Z5, hS.oldO⟩ (ownsRow_below hr5 Z5) (fun g hg => (hr5.lt g hg).2) (Rl.start w5 w3.heap.size st) (B5.out.trans (Z5.mono B5.out.size)))
           have hcf : ∃ pf cf, vf = .slice pf st.ok.length cf ∧ st.ok.length ≤ cf := by
             rcases hr5.2 with ⟨e1, e0⟩ | ⟨g, cap', cur, e1, _, _, a1, _⟩
             · exact ⟨none, 0, by rw [e1, e0], by omega⟩
             · exact ⟨_, _, e1, a1⟩
           obtain ⟨pf, cf, rfl, hcf⟩ := hcf
           clear hr5 hb5 hS Z5 FE)
        | (go_at_call 20; (with_reducible refine VA.out.mono ?_); rintro x w6 ⟨rfl, hw6⟩; obtain rfl := hw6.symm)
        | (go_at_call 42; (with_reducible refine RN.out.mono ?_); rintro x w7 ⟨rfl, hw7⟩; obtain rfl := hw7.symm))
      have hB5 := B5.out.size
      clear F DA B1 F2 D4 VA RN B4 B5
      go_loopw [11, 12] (fun a i wr => ∃ n k : Nat, a = .int .i64 n ∧ i = .int .i64 k ∧ k ≤ zs.length ∧ n ≤ st.ok.length ∧ Ra w wr w3.heap.size w5.heap.size w5.heap.size st n _ (.slice pf st.ok.length cf)) (fun _ i _ => zs.length - (intOf i).toNat)
      case atStart => exact ⟨0, 0, rfl, rfl, Nat.zero_le _, Nat.zero_le _, L0.out⟩
      case round =>
        clear L0 hps hpr
        obtain ⟨n, k, rfl, rfl, hk, hn, hI⟩ := hrel
        have L := hide hI
        clear hI
        by_cases hgo : k < zs.length ∧ 0 < st.ok.length
        · obtain ⟨hlt, hpos⟩ := hgo
          obtain ⟨bz, oz, rfl, hcz, z0⟩ := HZ.out.spot hlt L.out.bel (Nat.le_refl _)
          have lz : bz < wr.heap.size := block_lt_of_cell z0
          have PK := hide (pick_any (zs.getD k 0) st.ok.length hpos (by omega) wr)
          generalize zs.getD k 0 = z at z0 PK
          have p1 : (0 : Int) < (st.ok.length : Int) := by omega
          have p2 : decide ((0 : Int) < (st.ok.length : Int)) = true := decide_eq_true p1
          have i1 : (k : Int) < (zs.length : Int) := by omega
          have CE := hide (L.out.rl.cells (by omega))
          go_upto_region 18 with (first
            | (go_at_call 51; (with_reducible refine PK.out.mono ?_); rintro x w8 ⟨c, hc, rfl, hw8⟩; obtain rfl := hw8.symm)
            | (go_at_call 44; (with_reducible refine CE.out.mono ?_); rintro x w9 ⟨u, ds, rfl, ho, hl, hr, hb⟩
               have L9 := hide (L.out.still hb)
               have O9 := hide ho
               have W9 := hide hr
               clear ho hr hb))
          obtain ⟨gf, rfl, _⟩ := block_of L9.out.fd hpos
          obtain ⟨f0, f1, f2, f3, f4, hgf⟩ := recs_c L9.out.fd HRL.out hc
          have q1 : (c : Int) < (st.ok.length : Int) := by omega
          have hq := HQ.out c hc
          rcases Nat.lt_trichotomy c n with hcn | hcn | hcn
          · have e1 : ((c : Int) == (n : Int)) = false := by rw [beq_eq_false_iff_ne]; omega
            have e2 : decide ((n : Int) < (c : Int)) = false := decide_eq_false (by omega)
            have e3 : ¬ (n : Int) < (c : Int) := by omega
            have e4 : ¬ (c : Int) = (n : Int) := by omega
            have RD := hide (L9.out.old (st.rs.getD c recZ) (by omega) (by omega))
            generalize st.rs.getD c recZ = r at f0 f1 f2 f3 f4 RD hq
            clear hq
            go_wp2_with (first
              | (go_at_call 43; (with_reducible refine RD.out.mono ?_); rintro x w10 ⟨rfl, hb⟩
                 have L10 := hide (L9.out.still hb)
                 have W10 := hide (W9.out.below hb (Nat.le_refl _))
                 have C10 := hide (L10.out.rl.cells (by omega))
                 clear hb)
              | (go_at_call 44; (with_reducible refine C10.out.mono ?_); rintro x w11 ⟨u2, ds2, rfl, ho, hl2, hr, hb⟩
                 obtain rfl := ho.eq O9.out
                 have L11 := hide (L10.out.still hb)
                 have E11 := hide (equal_any _ _ _ _ ds2 w11 hr (W10.out.below hb (Nat.le_refl _)) (by omega))
                 clear ho hr hb)
              | (go_at_call 28; (with_reducible refine E11.out.mono ?_); rintro x w12 ⟨rfl, hb⟩
                 have L12 := hide (L11.out.still hb)
                 have A12 := hide L12.out.rl.at
                 clear hb)
              | (go_at_call 45; (with_reducible refine A12.out.mono ?_); rintro x w13 ⟨rfl, hb⟩
                 have L13 := hide (L12.out.still hb)
                 clear hb))
            first
              | exact ⟨⟨n, k + 1, rfl, by go_num, by omega, by omega, L13.out⟩, by simp [intOf]; omega⟩
              | exact ⟨by ((repeat apply Exists.intro); refine ⟨?_, rfl⟩; exact ⟨n, k + 1, rfl, by go_num, by omega, by omega, L13.out⟩), by simp [intOf]; omega⟩
          · subst hcn
            have e1 : ((c : Int) == (c : Int)) = true := by simp
            have e2 : decide ((c : Int) < (c : Int)) = false := decide_eq_false (by omega)
            have RD := hide (L9.out.read (by omega) hDid.out (TT.out.below L9.out.bel TK) (by omega) (by omega) hc (BRO.out _ (getD_mem hc)))
            have hwr : IntKind.i64.wrap ((c : Int) + 1) = (c : Int) + 1 := by rw [IntKind.wrap_i64]; omega
            generalize st.rs.getD c recZ = r at f0 f1 f2 f3 f4 RD hq
            clear hq
            go_wp2_with (first
              | (go_at_call 43; (with_reducible refine RD.out.mono ?_); rintro x w10 ⟨rfl, hL10⟩
                 have L10 := hide hL10
                 have A10 := hide hL10.rl.at
                 clear hL10)
              | (go_at_call 45; (with_reducible refine A10.out.mono ?_); rintro x w13 ⟨rfl, hb⟩
                 have L13 := hide (L10.out.still hb)
                 clear hb))
            first
              | exact ⟨⟨c + 1, k + 1, by go_num, by go_num, by omega, by omega, L13.out⟩, by simp [intOf]; omega⟩
              | exact ⟨by ((repeat apply Exists.intro); refine ⟨?_, rfl⟩; exact ⟨c + 1, k + 1, by go_num, by go_num, by omega, by omega, L13.out⟩), by simp [intOf]; omega⟩
          · have e1 : ((c : Int) == (n : Int)) = false := by rw [beq_eq_false_iff_ne]; omega
            have e2 : decide ((n : Int) < (c : Int)) = true := decide_eq_true (by omega)
            have e3 : (n : Int) < (c : Int) := by omega
            have RD := hide (L9.out.order (st.rs.getD c recZ) (by omega) (by omega))
            generalize st.rs.getD c recZ = r at f0 f1 f2 f3 f4 RD hq
            clear hq
            go_wp2_with (first
              | (go_at_call 43; (with_reducible refine RD.out.mono ?_); rintro x w10 ⟨rfl, hb⟩
                 have L10 := hide (L9.out.still hb)
                 have W10 := hide (W9.out.below hb (Nat.le_refl _))
                 have TA := hide (tell_arg 10 w10 (TT.out.below L10.out.bel TK).e)
                 clear hb)
              | (go_at_call 21; (with_reducible refine TA.out.mono ?_); rintro x w14 ⟨rfl, hb⟩
                 have L14 := hide (L10.out.still hb)
                 have W14 := hide (W10.out.below hb (Nat.le_refl _))
                 have C14 := hide (L14.out.rl.cells (by omega))
                 clear hb)
              | (go_at_call 44; (with_reducible refine C14.out.mono ?_); rintro x w11 ⟨u2, ds2, rfl, ho, hl2, hr, hb⟩
                 obtain rfl := ho.eq O9.out
                 have L11 := hide (L14.out.still hb)
                 have E11 := hide (equal_any _ _ _ _ ds2 w11 hr (W14.out.below hb (Nat.le_refl _)) (by omega))
                 clear ho hr hb)
              | (go_at_call 28; (with_reducible refine E11.out.mono ?_); rintro x w12 ⟨rfl, hb⟩
                 have L12 := hide (L11.out.still hb)
                 have A12 := hide L12.out.rl.at
                 clear hb)
              | (go_at_call 45; (with_reducible refine A12.out.mono ?_); rintro x w13 ⟨rfl, hb⟩
                 have L13 := hide (L12.out.still hb)
                 clear hb))
            first
              | exact ⟨⟨n, k + 1, rfl, by go_num, by omega, by omega, L13.out⟩, by simp [intOf]; omega⟩
              | exact ⟨by ((repeat apply Exists.intro); refine ⟨?_, rfl⟩; exact ⟨n, k + 1, rfl, by go_num, by omega, by omega, L13.out⟩), by simp [intOf]; omega⟩
        · have VA := hide L.out.vault
          have LS := hide (L.out.still (Below.refl _ wr).drew)
          have FO := hide (follow_any wr.drew w3.heap.size _ n cf pf st hDid.out LS.out.bare (TT.out.below LS.out.bel TK) (by omega) hn LS.out.fd BRO.out)
          have VD := hide LS.out.vault
          have q2 : (n : Int) ≤ (cf : Int) := by omega
          have hstop : (decide ((k : Int) < (zs.length : Int)) && decide ((0 : Int) < (st.ok.length : Int))) = false := by
            rw [Bool.and_eq_false_iff, decide_eq_false_iff_not, decide_eq_false_iff_not]
            omega
          by_cases hlt : k < zs.length
          · have h0 : st.ok.length = 0 := by omega
            have d3 : (k : Int) < (zs.length : Int) := by omega
            have d4 : decide ((0 : Int) < (st.ok.length : Int)) = false := decide_eq_false (by omega)
            have d5 : ¬ (0 : Int) < (st.ok.length : Int) := by omega
            have d6 : decide ((k : Int) < (zs.length : Int)) = true := decide_eq_true d3
            clear hstop h0
            go_upto_region 31 with fail
            go_region_with (first
              | (go_at_call 20; (with_reducible refine VD.out.mono ?_); rintro x w6 ⟨rfl, hw6⟩; obtain rfl := hw6.symm)
              | (go_at_call 52; (with_reducible refine FO.out.mono ?_); rintro x w7 ⟨rb2, rfl, hR2, hb7⟩; have R7 := hide hR2; have L7 := hide (LS.out.still hb7); have C7 := hide (hR2.cells (by omega)); clear hR2 hb7))
            all_goals
              go_wp2_with (first
                | (go_at_call 44; (with_reducible refine C7.out.mono ?_); rintro x w8 ⟨u, ds, rfl, ho, hl, hr, hb⟩
                   have L8 := hide (L7.out.still hb)
                   have R8 := hide (R7.out.still hb)
                   have O8 := hide ho
                   have W8 := hide hr
                   have C8 := hide (L8.out.rl.cells (by omega))
                   clear ho hr hb)
                | (go_at_call 44; (with_reducible refine C8.out.mono ?_); rintro x w9 ⟨u2, ds2, rfl, ho, hl2, hr, hb⟩
                   obtain rfl := ho.eq O8.out
                   have L9 := hide (L8.out.still hb)
                   have R9 := hide (R8.out.still hb)
                   have E9 := hide (equal_any _ _ _ _ ds2 w9 (W8.out.below hb (Nat.le_refl _)) hr (by omega))
                   clear ho hr hb)
                | (go_at_call 28; (with_reducible refine E9.out.mono ?_); rintro x w10 ⟨rfl, hb⟩
                   have L10 := hide (L9.out.still hb)
                   have R10 := hide (R9.out.still hb)
                   have X10 := hide R10.out.lost
                   have Y10 := hide L10.out.rl.lost
                   clear hb)
                | (go_at_call 46; (with_reducible refine X10.out.mono ?_); rintro x w11 ⟨rfl, hw11⟩; obtain rfl := hw11.symm)
                | (go_at_call 46; (with_reducible refine Y10.out.mono ?_); rintro x w12 ⟨rfl, hw12⟩; obtain rfl := hw12.symm))
              go_ret
              exact ⟨rfl, L10.out.bel⟩
          · have d3 : ¬ (k : Int) < (zs.length : Int) := by omega
            have d6 : decide ((k : Int) < (zs.length : Int)) = false := decide_eq_false d3
            clear hstop
            go_upto_region 31 with fail
            go_region_with (first
              | (go_at_call 20; (with_reducible refine VD.out.mono ?_); rintro x w6 ⟨rfl, hw6⟩; obtain rfl := hw6.symm)
              | (go_at_call 52; (with_reducible refine FO.out.mono ?_); rintro x w7 ⟨rb2, rfl, hR2, hb7⟩; have R7 := hide hR2; have L7 := hide (LS.out.still hb7); have C7 := hide (hR2.cells (by omega)); clear hR2 hb7))
            all_goals
              go_wp2_with (first
                | (go_at_call 44; (with_reducible refine C7.out.mono ?_); rintro x w8 ⟨u, ds, rfl, ho, hl, hr, hb⟩
                   have L8 := hide (L7.out.still hb)
                   have R8 := hide (R7.out.still hb)
                   have O8 := hide ho
                   have W8 := hide hr
                   have C8 := hide (L8.out.rl.cells (by omega))
                   clear ho hr hb)
                | (go_at_call 44; (with_reducible refine C8.out.mono ?_); rintro x w9 ⟨u2, ds2, rfl, ho, hl2, hr, hb⟩
                   obtain rfl := ho.eq O8.out
                   have L9 := hide (L8.out.still hb)
                   have R9 := hide (R8.out.still hb)
                   have E9 := hide (equal_any _ _ _ _ ds2 w9 (W8.out.below hb (Nat.le_refl _)) hr (by omega))
                   clear ho hr hb)
                | (go_at_call 28; (with_reducible refine E9.out.mono ?_); rintro x w10 ⟨rfl, hb⟩
                   have L10 := hide (L9.out.still hb)
                   have R10 := hide (R9.out.still hb)
                   have X10 := hide R10.out.lost
                   have Y10 := hide L10.out.rl.lost
                   clear hb)
                | (go_at_call 46; (with_reducible refine X10.out.mono ?_); rintro x w11 ⟨rfl, hw11⟩; obtain rfl := hw11.symm)
                | (go_at_call 46; (with_reducible refine Y10.out.mono ?_); rintro x w12 ⟨rfl, hw12⟩; obtain rfl := hw12.symm))
              go_ret
              exact ⟨rfl, L10.out.bel⟩
end Go.Proofs.YtbmiheebhinbpaaGreatDoor

/- Lists of numbers as a row's condition reads them. -/
namespace Go.Proofs.YtbmiheebhinbpaaGreatDoor
open Go.ChangeShapes Go.WideShapes Go.ChangeAt Go.RowKit
set_option linter.unusedSectionVars false
variable [Inhabited Cl] [Inhabited Ev]
theorem int_of {H : Type} {enc : TypeId × Value → H} {W : World} {base : Nat} {sp : Nat → Bool} {held : Bool} {fuel : Nat} {cs : List Value} {x : DataW H × List MemPlace} (h : DataW.trod enc Tryz.prog W base sp held fuel 3 cs = some x) : ∃ z : Int, cs = [.int .i64 z] := by
  obtain ⟨k, e0, _⟩ := DataW.trod_int Tryz.underlying3 h
  exact ⟨k, e0⟩
/-- A list of numbers as the row reads it. -/
theorem ints_of {H : Type} {enc : TypeId × Value → H} {W : World} {ao : Option Addr} {len cap : Nat} {d : DataW H} {p : List MemPlace} (h : DataW.Trod enc Tryz.prog W 0 (fun _ => true) true 81 (.slice ao len cap) d p) : ∃ zs, IntRow W (.slice ao len cap) zs := by
  obtain ⟨fuel, hf⟩ := h
  rcases Go.Deep.open_slice Tryz.underlying81 hf with ⟨hcs, _⟩ | ⟨a, len', cap', m, n, D, Pl, hcs, _, hl, _, hm, _, hx⟩
  · simp [Value.cells] at hcs
    obtain ⟨rfl, rfl, rfl⟩ := hcs
    exact ⟨[], .inl ⟨⟨_, _, rfl⟩, rfl⟩⟩
  · simp [Value.cells] at hcs
    obtain ⟨rfl, rfl, rfl⟩ := hcs
    rw [cells3] at hx
    have hmc : m = cap := by simpa using hm
    have each : ∀ i, i < len → ∃ z : Int, W.cell? (a.add i) = some (.int .i64 z) := fun i hi => by
      obtain ⟨cs, h1, h2⟩ := hx i (by omega)
      obtain ⟨z, rfl⟩ := int_of h2
      obtain ⟨_, _, hc⟩ := World.cells?_some h1
      have := hc 0 (by omega)
      rw [Go.Deep.add_add] at this
      simp at this
      exact ⟨z, this⟩
    obtain ⟨f, hF⟩ := Go.Deep.choose_lt each
    by_cases h0 : len = 0
    · subst h0
      exact ⟨[], .inl ⟨⟨_, _, rfl⟩, rfl⟩⟩
    · obtain ⟨b, off, spot⟩ := a
      have z0 := hF 0 (by omega)
      have hspot : spot = none := by simpa [Addr.add] using World.cell?_spot z0
      subst hspot
      have hlen : ((List.range len).map f).length = len := by simp
      refine ⟨(List.range len).map f, .inr ⟨b, off, cap, by rw [hlen], by rw [hlen]; omega, fun k hk => ?_⟩⟩
      have hk' : k < len := by simpa using hk
      have hg : ((List.range len).map f).getD k 0 = f k := by
        rw [List.getD_eq_getElem?_getD, List.getElem?_map, List.getElem?_range hk']
        rfl
      rw [hg]
      have := hF k hk'
      rw [Addr.add_lit] at this
      exact this
end Go.Proofs.YtbmiheebhinbpaaGreatDoor
