/- Texts of this proof, one behind the other. -/
import Derived.BigQuiet
import Derived.Deep.DeepCutAuto
import Derived.Test.YtdjpghgnjcmdnaaGreatDoorPart29
/- The law's own fed: a run of fixed events. -/
namespace Go.Proofs.YtdjpghgnjcmdnaaGreatDoor
open Go.RowKit Go.Sort
attribute [local go_sem ↓] Go.wp_at_zero Go.wp_at_succ
theorem fedNew (w : World) : Calls Tryz.prog 67 #[.pointer (some ⟨w.heap.size, 0, none⟩)] (w.alloc (.cells #[.string secB, .map none] 143)) fun e w' => e = .returned (.tuple #[.pointer (some ⟨w.heap.size + 1, 0, none⟩), .nilIface]) ∧ Fd w.heap.size w' (w.heap.size + 1) w.heap.size none (.slice none 0 0) 0 secB kept0 [] ∧ Below w.heap.size w w' := by
  have F := feedNew_ok w.heap.size (w.alloc (.cells #[.string secB, .map none] 143))
  rw [World.size_alloc] at F
  refine F.mono ?_
  rintro x w' ⟨rfl, rfl⟩
  have b1 : Below w.heap.size w (w.alloc (.cells #[.string secB, .map none] 143)) := (Below.refl _ w).alloc (Nat.le_refl _) _
  have b2 := b1.alloc b1.size (.cells #[.pointer (some ⟨w.heap.size, 0, none⟩), .slice none 0 0] 156)
  have r1 := (HasR.new w 143 #[.string secB, .map none]).alloc (.cells #[.pointer (some ⟨w.heap.size, 0, none⟩), .slice none 0 0] 156)
  have r2 := HasR.new (w.alloc (.cells #[.string secB, .map none] 143)) 156 #[.pointer (some ⟨w.heap.size, 0, none⟩), .slice none 0 0]
  rw [World.size_alloc] at r2
  exact ⟨rfl, ⟨⟨r2, World.ownsRow_nil _ _ _ _⟩, ⟨r1, fun _ => rfl, (fun m e => by cases e)⟩, b2.size, by omega, Nat.le_refl _, (fun m e => by cases e), (fun g e => by cases e)⟩, b2⟩
theorem rec1 : recA T1 = #[.int .i64 1, .string ⟨#[97, 110, 110]⟩, .int .i64 1, .string ⟨#[0, 0, 0, 0, 0, 0, 0, 0, 0, 0, 0, 0, 0, 0, 0, 0]⟩, .string T1.d] := by
  unfold recA
  rw [T1_g]
  rfl
theorem head0 : headR [] = ⟨#[0, 0, 0, 0, 0, 0, 0, 0, 0, 0, 0, 0, 0, 0, 0, 0]⟩ := rfl
theorem tell1 {B : Nat} {w : World} {fb vb : Nat} (h : Fd B w fb vb none (.slice none 0 0) 0 secB kept0 []) (T : Tabs w) (hB : 10 < B) :
    Calls Tryz.prog 78 #[.pointer (some ⟨fb, 0, none⟩), .agg #[.int .i64 1, .string ⟨#[97, 110, 110]⟩, .string ⟨#[116]⟩, .string ⟨#[114]⟩, .string ⟨#[118]⟩]] w fun x w' =>
      x = .returned (.tuple #[.agg #[.int .i64 1, .string ⟨#[97, 110, 110]⟩, .int .i64 1, .string ⟨#[0, 0, 0, 0, 0, 0, 0, 0, 0, 0, 0, 0, 0, 0, 0, 0]⟩, .string T1.d], .nilIface]) ∧ (∃ m v', Fd B w' fb vb (some m) v' 1 secB K1 [T1] ∧ (∀ g, v'.ownBlock = some g → w.heap.size ≤ g ∧ g < w'.heap.size)) ∧ Stirred [fb, vb] w w' ∧ Below B w w' := by
  refine (h.tell T hB putE putR (fun e => by cases e) (by decide) (fun r hr => by simp at hr) (by decide) (by decide) (fun l => Nat.le_refl 0)).mono ?_
  rintro x w' ⟨rfl, ⟨m, v', hF, hm, hv⟩, hs, hb⟩
  refine ⟨by rw [← rec1]; rfl, ⟨m, v', hF, fun g hg => ⟨?_, ?_⟩⟩, hs, hb⟩
  · rcases hv with e | e
    · rw [hg] at e; cases e
    · exact e g hg
  · obtain ⟨cur, hc⟩ := hF.feed.block hg
    exact hc.lt
theorem tell2 {B : Nat} {w : World} {fb vb m : Nat} {v : Value} (h : Fd B w fb vb (some m) v 1 secB K1 [T1]) (T : Tabs w) (hB : 10 < B) :
    Calls Tryz.prog 78 #[.pointer (some ⟨fb, 0, none⟩), .agg #[.int .i64 3, .string ⟨#[97, 110, 110]⟩, .string ⟨#[]⟩, .string ⟨#[]⟩, .string ⟨#[]⟩]] w fun x w' =>
      (∃ (q g : Int) (s p d : ByteArray), x = .returned (.tuple #[.agg #[.int .i64 q, .string s, .int .i64 g, .string p, .string d], .nilIface])) ∧ (∃ m v', Fd B w' fb vb (some m) v' 2 secB K2 ([T1] ++ [tellR secB K1 [T1] goneE])) ∧ Stirred (fb :: vb :: (m :: v.ownBlock.toList)) w w' ∧ Below B w w' := by
  refine (h.tell T hB goneE goneR (fun _ => by decide +kernel) (by decide) (fun r hr => by simp at hr; subst hr; exact T1_fit) (by decide) (by decide) (fun l => ?_)).mono ?_
  · show (made kept0 putE.s.data.toList l).1 ≤ 1
    unfold made
    split
    · exact Nat.le_refl 1
    · exact Nat.zero_le 1
  · rintro x w' ⟨rfl, ⟨m', v', hF, _, _⟩, hs, hb⟩
    exact ⟨⟨_, _, _, _, _, rfl⟩, ⟨m', v', hF⟩, hs, hb⟩
theorem open1L {B : Nat} {w : World} {fb vb : Nat} {mv : Option Nat} {v : Value} {nv : Nat} {rs : List Rec} (h : Fd B w fb vb mv v nv secB K1 rs) (T : Tabs w) :
    Calls Tryz.prog 126 #[.pointer (some ⟨vb, 0, none⟩), .agg #[.int .i64 1, .string ⟨#[97, 110, 110]⟩, .int .i64 1, .string ⟨#[0, 0, 0, 0, 0, 0, 0, 0, 0, 0, 0, 0, 0, 0, 0, 0]⟩, .string T1.d]] w fun x w' => x = .returned (.tuple #[.agg #[.int .i64 1, .string ⟨#[97, 110, 110]⟩, .string ⟨#[116]⟩, .string ⟨#[114]⟩, .string ⟨#[118]⟩], .nilIface]) ∧ Below w.heap.size w w' := by
  have := open1 h T
  rw [← rec1]
  exact this
theorem open2L {B : Nat} {w : World} {fb vb : Nat} {mv : Option Nat} {v : Value} {nv : Nat} {rs : List Rec} (h : Fd B w fb vb mv v nv secB K2 rs) :
    Calls Tryz.prog 126 #[.pointer (some ⟨vb, 0, none⟩), .agg #[.int .i64 1, .string ⟨#[97, 110, 110]⟩, .int .i64 1, .string ⟨#[0, 0, 0, 0, 0, 0, 0, 0, 0, 0, 0, 0, 0, 0, 0, 0]⟩, .string T1.d]] w fun x w' => x = .returned (.tuple #[.agg #[.int .i64 0, .string ⟨#[]⟩, .string ⟨#[]⟩, .string ⟨#[]⟩, .string ⟨#[]⟩], .iface 25 (.int .i64 8)]) ∧ Below w.heap.size w w' := by
  have := open2 h
  rw [← rec1]
  exact this
theorem guard33 : Tryz.prog.eqGuardType Tryz.prog.depth 69 = false := by kernel_rfl
theorem evNe (w : World) : (binOp .neq 69 (.agg #[.int .i64 1, .string ⟨#[97, 110, 110]⟩, .string ⟨#[116]⟩, .string ⟨#[114]⟩, .string ⟨#[118]⟩]) (.agg #[.int .i64 1, .string ⟨#[97, 110, 110]⟩, .string ⟨#[116]⟩, .string ⟨#[114]⟩, .string ⟨#[118]⟩])).run Tryz.prog w = .ok (.bool false) w := by kernel_rfl
end Go.Proofs.YtdjpghgnjcmdnaaGreatDoor

/- Are records one behind the other? The program's Whole, of records that are. -/
namespace Go.Proofs.YtdjpghgnjcmdnaaGreatDoor
open Go.RowKit
attribute [local go_sem ↓] Go.wp_at_zero Go.wp_at_succ
theorem HasR.one {w : World} {b : Nat} {t : TypeId} {a0 : Value} (h : HasR w b t #[a0]) (v0 : Value) : HasR (w.setCell ⟨b, 0, none⟩ v0) b t #[v0] := h.set 0 v0
end Go.Proofs.YtdjpghgnjcmdnaaGreatDoor

/- What was told is read: the law's own walk. -/
namespace Go.Proofs.YtdjpghgnjcmdnaaGreatDoor
open Go.RowKit Go.Sort
attribute [local go_sem ↓] Go.wp_at_zero Go.wp_at_succ
set_option linter.unusedSectionVars false
variable [Inhabited Cl] [Inhabited Ev]
theorem block_of {w : World} {b : Nat} {t : TypeId} {n len : Nat} {p : Option Addr} {cap m : Nat} {l : List Value} (h : w.ownsRow b t n (.slice p m cap) len l) (hl : 0 < len) : ∃ g, p = some ⟨g, 0, none⟩ ∧ m = len := by
  obtain ⟨g, cap', e, _⟩ := h.form hl
  simp only [Value.slice.injEq] at e
  exact ⟨g, e.1, e.2.1⟩
theorem evs_c {w : World} {base g cap : Nat} {es : List Ev} {k : Nat} (h : w.ownsRow base 69 5 (.slice (some ⟨g, 0, none⟩) es.length cap) es.length (evsL es)) (hk : k < es.length) : w.cell? ⟨g, k * 5, none⟩ = some (.int .i64 (es.getD k ev0).k) ∧ w.cell? ⟨g, k * 5 + 1, none⟩ = some (.string (es.getD k ev0).s) ∧ w.cell? ⟨g, k * 5 + 2, none⟩ = some (.string (es.getD k ev0).t) ∧ w.cell? ⟨g, k * 5 + 3, none⟩ = some (.string (es.getD k ev0).r) ∧ w.cell? ⟨g, k * 5 + 4, none⟩ = some (.string (es.getD k ev0).v) ∧ g < w.heap.size := by
  have c : ∀ i, i < 5 → w.cell? ⟨g, k * 5 + i, none⟩ = (evL (es.getD k ev0))[i]? := fun i hi => (h.cellAt (k * 5 + i) (by omega)).trans (evsL_at es k i hk hi)
  have c0 : w.cell? ⟨g, k * 5, none⟩ = some (.int .i64 (es.getD k ev0).k) := c 0 (by omega)
  exact ⟨c0, c 1 (by omega), c 2 (by omega), c 3 (by omega), c 4 (by omega), block_lt_of_cell c0⟩
theorem recs_c {w : World} {base g cap m : Nat} {rs : List Rec} {k : Nat} (h : w.ownsRow base 74 5 (.slice (some ⟨g, 0, none⟩) m cap) m (recsL rs)) (hm : rs.length = m) (hk : k < m) : w.cell? ⟨g, k * 5, none⟩ = some (.int .i64 ((rs.getD k recZ).q : Int)) ∧ w.cell? ⟨g, k * 5 + 1, none⟩ = some (.string (rs.getD k recZ).s) ∧ w.cell? ⟨g, k * 5 + 2, none⟩ = some (.int .i64 ((rs.getD k recZ).g : Int)) ∧ w.cell? ⟨g, k * 5 + 3, none⟩ = some (.string (rs.getD k recZ).p) ∧ w.cell? ⟨g, k * 5 + 4, none⟩ = some (.string (rs.getD k recZ).d) ∧ g < w.heap.size := by
  subst hm
  have c : ∀ i, i < 5 → w.cell? ⟨g, k * 5 + i, none⟩ = (recL (rs.getD k recZ))[i]? := fun i hi => (h.cellAt (k * 5 + i) (by omega)).trans (recsL_at rs k i hk hi)
  have c0 : w.cell? ⟨g, k * 5, none⟩ = some (.int .i64 ((rs.getD k recZ).q : Int)) := c 0 (by omega)
  exact ⟨c0, c 1 (by omega), c 2 (by omega), c 3 (by omega), c 4 (by omega), block_lt_of_cell c0⟩
end Go.Proofs.YtdjpghgnjcmdnaaGreatDoor

/- Who comes late has what is left: a reader of a feed to which all happened already. -/
namespace Go.Proofs.YtdjpghgnjcmdnaaGreatDoor
open Go.RowKit Go.Sort
attribute [local go_sem ↓] Go.wp_at_zero Go.wp_at_succ
set_option linter.unusedSectionVars false
variable [Inhabited Cl] [Inhabited Ev]
/-- Is a record lost to who comes late, and how many are. -/
def lossB (ok : List Ev) (k : Nat) : Bool := !decide ((ok.getD k ev0).k = 3) && lostB (ok.drop (k + 1)) (ok.getD k ev0).s
def lostN (ok : List Ev) : Nat → Nat
  | 0 => 0
  | k + 1 => lostN ok k + if lossB ok k = true then 1 else 0
theorem lostN_le (ok : List Ev) : ∀ k, lostN ok k ≤ k
  | 0 => Nat.le_refl 0
  | k + 1 => by
    have := lostN_le ok k
    show lostN ok k + (if lossB ok k = true then 1 else 0) ≤ k + 1
    split <;> omega
theorem lossB_iff {ok : List Ev} {k : Nat} : lossB ok k = true ↔ (ok.getD k ev0).k ≠ 3 ∧ lostB (ok.drop (k + 1)) (ok.getD k ev0).s = true := by
  unfold lossB
  rw [Bool.and_eq_true, Bool.not_eq_true', decide_eq_false_iff_not]
theorem headR_take {rs : List Rec} {k : Nat} (h : k < rs.length) : headR (rs.take (k + 1)) = markR (rs.getD k recZ) := by
  have hne : ¬ rs.take (k + 1) = [] := fun e => by
    have := congrArg List.length e
    rw [List.length_take, List.length_nil, Nat.min_eq_left (by omega)] at this
    omega
  unfold headR
  rw [if_neg hne, List.length_take, Nat.min_eq_left (by omega), List.getD_eq_getElem?_getD, List.getD_eq_getElem?_getD, List.getElem?_take_of_lt (by omega)]
  rfl
set_option maxRecDepth 100000 in
set_option maxHeartbeats 1000000 in
/-- What was read is passed over. -/
theorem read_old (w : World) (rb vb read lost : Nat) (mark : ByteArray) (mt : Option Nat) (nt : Nat) (τ : Tab) (r : Rec) (h : TabV w rb 133 #[.pointer (some ⟨vb, 0, none⟩), .int .i64 (read : Int), .string mark, .int .i64 (lost : Int)] mt nt τ) (h1 : 1 ≤ r.q) (h2 : r.q ≤ read) :
    Calls Tryz.prog 48 #[.pointer (some ⟨rb, 0, none⟩), .agg #[.int .i64 (r.q : Int), .string r.s, .int .i64 (r.g : Int), .string r.p, .string r.d]] w fun y w' => y = .returned .nilIface ∧ Below w.heap.size w w' := by
  have bel : Below w.heap.size w (w.alloc (.cells #[.int .i64 (r.q : Int), .string r.s, .int .i64 (r.g : Int), .string r.p, .string r.d] 74)) := (Below.refl _ w).alloc (Nat.le_refl _) _
  have E0 := hide (HasR.new w 74 #[.int .i64 (r.q : Int), .string r.s, .int .i64 (r.g : Int), .string r.p, .string r.d])
  have AT := hide (at_any _ rb vb read lost mark mt nt τ (h.below bel))
  have BL := hide bel
  have hq1 := ptrR_nil rb
  have n1 : (1 : Int) ≤ (r.q : Int) := by omega
  have n2 : (r.q : Int) ≤ (read : Int) := by omega
  have d1 : decide ((1 : Int) ≤ (r.q : Int)) = true := decide_eq_true n1
  have d2 : decide ((r.q : Int) ≤ (read : Int)) = true := decide_eq_true n2
  clear h bel
  go_enter Tryz.func48, Tryz.ntmps48
  go_wp2_with (
    go_at_call 50; (with_reducible refine AT.out.mono ?_); rintro y w1 ⟨rfl, hb1⟩
    have B1 := hide (BL.out.trans (hb1.mono BL.out.size))
    have E1 := hide (E0.out.below hb1 E0.out.lt)
    have e0 : w1.cell? ⟨w.heap.size, 0, none⟩ = some (.int .i64 (r.q : Int)) := E1.out.cell 0
    clear hb1)
  go_ret
  exact ⟨rfl, B1.out⟩
set_option maxRecDepth 100000 in
set_option maxHeartbeats 1000000 in
/-- Of those ahead it reads the next one alone. -/
theorem read_order (w : World) (rb vb read lost : Nat) (mark : ByteArray) (mt : Option Nat) (nt : Nat) (τ : Tab) (r : Rec) (h : TabV w rb 133 #[.pointer (some ⟨vb, 0, none⟩), .int .i64 (read : Int), .string mark, .int .i64 (lost : Int)] mt nt τ) (h2 : read + 1 < r.q) (h3 : r.q < 1000) :
    Calls Tryz.prog 48 #[.pointer (some ⟨rb, 0, none⟩), .agg #[.int .i64 (r.q : Int), .string r.s, .int .i64 (r.g : Int), .string r.p, .string r.d]] w fun y w' => y = .returned (.iface 25 (.int .i64 10)) ∧ Below w.heap.size w w' := by
  have bel : Below w.heap.size w (w.alloc (.cells #[.int .i64 (r.q : Int), .string r.s, .int .i64 (r.g : Int), .string r.p, .string r.d] 74)) := (Below.refl _ w).alloc (Nat.le_refl _) _
  have E0 := hide (HasR.new w 74 #[.int .i64 (r.q : Int), .string r.s, .int .i64 (r.g : Int), .string r.p, .string r.d])
  have AT := hide (at_any _ rb vb read lost mark mt nt τ (h.below bel))
  have BL := hide bel
  have hq1 := ptrR_nil rb
  have n1 : (1 : Int) ≤ (r.q : Int) := by omega
  have n2 : ¬ (r.q : Int) ≤ (read : Int) := by omega
  have n3 : ¬ (r.q : Int) < 1 := by omega
  have d1 : decide ((1 : Int) ≤ (r.q : Int)) = true := decide_eq_true n1
  have d2 : decide ((r.q : Int) ≤ (read : Int)) = false := decide_eq_false n2
  have d3 : decide ((r.q : Int) < 1) = false := decide_eq_false n3
  have hwr : IntKind.i64.wrap ((r.q : Int) - 1) = (r.q : Int) - 1 := by rw [IntKind.wrap_i64]; omega
  have d4 : ((r.q : Int) - 1 != (read : Int)) = true := by simp [bne]; omega
  have n4 : ¬ (r.q : Int) - 1 = (read : Int) := by omega
  clear h bel
  go_enter Tryz.func48, Tryz.ntmps48
  go_wp2_with (
    go_at_call 50; (with_reducible refine AT.out.mono ?_); rintro y w1 ⟨rfl, hb1⟩
    have B1 := hide (BL.out.trans (hb1.mono BL.out.size))
    have E1 := hide (E0.out.below hb1 E0.out.lt)
    have e0 : w1.cell? ⟨w.heap.size, 0, none⟩ = some (.int .i64 (r.q : Int)) := E1.out.cell 0
    clear hb1)
  go_ret
  exact ⟨rfl, B1.out⟩
/-- A reader that read the first n records, all of its own blocks from Br on. -/
structure Rl (w : World) (Br B rb : Nat) (st : Hst) (n : Nat) : Prop where
  rd : ∃ mr nt mark, TabV w rb 133 #[.pointer (some ⟨B, 0, none⟩), .int .i64 (n : Int), .string mark, .int .i64 ((lostN st.ok n : Nat) : Int)] mr nt (lateT st.ok n) ∧ nt ≤ n ∧ markAt n mark = headR (st.rs.take n) ∧ ∀ m, mr = some m → Br ≤ m
  low : Br ≤ rb
theorem Rl.still {w w' : World} {Br B rb : Nat} {st : Hst} {n : Nat} (h : Rl w Br B rb st n) (b : Below w.heap.size w w') : Rl w' Br B rb st n := by
  obtain ⟨mr, nt, mark, hT, h1, h2, h3⟩ := h.rd
  exact ⟨⟨mr, nt, mark, hT.below b, h1, h2, h3⟩, h.low⟩
theorem Rl.start (w : World) (B : Nat) (st : Hst) : Rl (w.alloc (.cells #[.pointer (some ⟨B, 0, none⟩), .int .i64 0, .string ⟨#[]⟩, .int .i64 0, .map none] 133)) w.heap.size B w.heap.size st 0 :=
  ⟨⟨none, 0, ⟨#[]⟩, ⟨HasR.new w 133 _, fun _ => lateT_start st.ok, (fun m e => by cases e)⟩, Nat.le_refl _, rfl, (fun m e => by cases e)⟩, Nat.le_refl _⟩
theorem Rl.read {w : World} {Br B rb : Nat} {st : Hst} {n : Nat} (h : Rl w Br B rb st n) (hd : Did secB st) (S : ∃ mt mv v, Src B w (B + 2) (B + 1) B mt mv v st.ok.length st.ok.length secB st.σ st.τ st.rs) (T : Tabs w) (h3 : 3 < Br) (hn : st.ok.length < 100) (hk : n < st.ok.length) (hbr : Brief (st.ok.getD n ev0)) :
    Calls Tryz.prog 48 #[.pointer (some ⟨rb, 0, none⟩), .agg #[.int .i64 ((st.rs.getD n recZ).q : Int), .string (st.rs.getD n recZ).s, .int .i64 ((st.rs.getD n recZ).g : Int), .string (st.rs.getD n recZ).p, .string (st.rs.getD n recZ).d]] w fun x w' => x = .returned .nilIface ∧ Rl w' Br B rb st (n + 1) ∧ ∃ L, Stirred L w w' ∧ ∀ j ∈ L, Br ≤ j ∧ j < w.heap.size ∧ ∀ t cs, HasR w j t cs → t = 133 := by
  obtain ⟨mr, nt, mark, hT, h1, h2, h4⟩ := h.rd
  obtain ⟨mt, mv, v, hS⟩ := S
  obtain ⟨hrl, hrecs⟩ := hd.recs
  obtain ⟨hRO, hq, hp⟩ := hrecs n hk
  have hfit : Fit (st.rs.getD n recZ) := hS.fit _ (getD_mem (by omega))
  obtain ⟨x, er, hx, hO⟩ := open_either hRO hfit
  have hE : (lossB st.ok n = true ∧ er = .iface 25 (.int .i64 8)) ∨ (lossB st.ok n = false ∧ er = .nilIface ∧ rightB x = true ∧ Brief x) := by
    rcases hx with ⟨a, b, c, d⟩ | ⟨a, b, c⟩
    · exact .inl ⟨lossB_iff.2 ⟨a, b⟩, d⟩
    · refine .inr ⟨?_, c, by rw [b]; exact hRO.right, by rw [b]; exact hbr⟩
      cases hb : lossB st.ok n
      · rfl
      · exact absurd (lossB_iff.1 hb) a
  have hle := lostN_le st.ok n
  refine (read_next w rb B n (lostN st.ok n) mark mr nt (lateT st.ok n) (st.rs.getD n recZ) x er (lossB st.ok n) hT (fun wx hb => hO _ _ _ _ _ _ _ _ _ _ _ _ (hS.still hb) (T.below hb T.n)) hE (by omega) (by omega) (by omega) hq (by rw [hp, h2]) hfit T.k ?_).mono ?_
  · intro j hj
    rcases List.mem_cons.1 hj with a | a
    · have := h.low; omega
    · have := h4 j (by simpa using a); omega
  · rintro y w' ⟨rfl, mr', hT', hm, hst⟩
    refine ⟨rfl, ⟨⟨mr', nt + 1, markR (st.rs.getD n recZ), ?_, by omega, ?_, fun m em => ?_⟩, h.low⟩, _, hst, fun j hj => ?_⟩
    · have e1 : (if lossB st.ok n = true then lostN st.ok n + 1 else lostN st.ok n) = lostN st.ok (n + 1) := by
        show _ = lostN st.ok n + (if lossB st.ok n = true then 1 else 0)
        split <;> rfl
      have e2 : (if lossB st.ok n = true then lateT st.ok n else app x (lateT st.ok n)) = lateT st.ok (n + 1) := by
        rw [lateT_step hd hk]
        rcases hx with ⟨a, b, c, d⟩ | ⟨a, b, c⟩
        · rw [if_pos (lossB_iff.2 ⟨a, b⟩), if_pos ⟨a, b⟩]
        · rw [if_neg (fun z => a (lossB_iff.1 z)), if_neg a, b]
      rw [e1, e2] at hT'
      exact hT'
    · rw [headR_take (by omega)]
      unfold markAt
      rw [if_neg (by omega)]
    · rcases hm with a | ⟨_, m2, a, b⟩
      · rw [a] at em
        exact h4 m em
      · rw [a] at em
        cases em
        have := hT.row.lt
        have := h.low
        omega
    · rcases List.mem_cons.1 hj with a | a
      · rw [a]
        refine ⟨h.low, hT.row.lt, fun t cs hc => ?_⟩
        by_cases ht : t = 133
        · exact ht
        · exact absurd rfl (hc.apartT hT.row ht)
      · obtain ⟨D, o, _⟩ := hT.held j (by simpa using a)
        exact ⟨h4 j (by simpa using a), o.lt, fun t cs hc => absurd rfl (hc.noMap o)⟩
theorem Rl.cells {w : World} {Br B rb : Nat} {st : Hst} {n : Nat} (h : Rl w Br B rb st n) (hn : n < 100) : Calls Tryz.prog 51 #[.pointer (some ⟨rb, 0, none⟩)] w fun x w' => ∃ u ds, x = .returned u ∧ InOrd (lateT st.ok n) ds ∧ ds.length ≤ 100 ∧ RowC w' w.heap.size u ds ∧ Below w.heap.size w w' := by
  obtain ⟨mr, nt, mark, hT, h1, h2, h4⟩ := h.rd
  refine (rdCells_any w rb B n (lostN st.ok n) mark mr nt (lateT st.ok n) hT (by omega)).mono ?_
  rintro x w' ⟨u, ds, a, b, c, d⟩
  exact ⟨u, ds, a, b, by omega, d⟩
theorem Rl.at {w : World} {Br B rb : Nat} {st : Hst} {n : Nat} (h : Rl w Br B rb st n) : Calls Tryz.prog 50 #[.pointer (some ⟨rb, 0, none⟩)] w fun x w' => x = .returned (.tuple #[.int .i64 (n : Int), .string (headR (st.rs.take n))]) ∧ Below w.heap.size w w' := by
  obtain ⟨mr, nt, mark, hT, h1, h2, h4⟩ := h.rd
  rw [← h2]
  exact at_any w rb B n (lostN st.ok n) mark mr nt (lateT st.ok n) hT
theorem Rl.lost {w : World} {Br B rb : Nat} {st : Hst} {n : Nat} (h : Rl w Br B rb st n) : Calls Tryz.prog 52 #[.pointer (some ⟨rb, 0, none⟩)] w fun x w' => x = .returned (.int .i64 ((lostN st.ok n : Nat) : Int)) ∧ w' = w := by
  obtain ⟨mr, nt, mark, hT, h1, h2, h4⟩ := h.rd
  exact lost_any w rb B n (lostN st.ok n) mark mr nt (lateT st.ok n) hT
end Go.Proofs.YtdjpghgnjcmdnaaGreatDoor
