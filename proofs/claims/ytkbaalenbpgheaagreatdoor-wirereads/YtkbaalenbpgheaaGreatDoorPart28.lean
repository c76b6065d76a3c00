/- Texts of this proof, one behind the other. -/
import Derived.ProofKit
import Derived.OpenShut
import Derived.Stop.Joined
import Derived.Deep.Strs
import Derived.Test.YtkbaalenbpgheaaGreatDoorPart27
/- The law's own look at an error: none, and the program's own. -/
namespace Go.Proofs.YtkbaalenbpgheaaGreatDoor
open Go.RowKit Go.Extern.Stop Go.Stop Go.Extern
/-- The library's own variable lies where it was laid. -/
def TabE (w : World) : Prop := w.cell? ⟨0, 0, none⟩ = some (.iface 199 (.agg #[.pointer (some ⟨6, 32, none⟩)]))
theorem TabE.lt {w : World} (h : TabE w) : 0 < w.heap.size := block_lt_of_cell h
theorem TabE.below {w w' : World} {B : Nat} (h : TabE w) (hb : Below B w w') (hB : 0 < B) : TabE w' := by
  unfold TabE
  rw [hb.cell (p := ⟨0, 0, none⟩) hB]; exact h
theorem asW_below (w : World) (b : Nat) (n : Int) (hb : b ≤ w.heap.size) : Below b w (asW w ⟨b, 0, none⟩ n) := by
  unfold asW
  exact (((((Below.refl b w).alloc hb _).alloc (by simp; omega) _).alloc (by simp; omega) _).alloc (by simp; omega) _).setCell (Nat.le_refl _) _
theorem Tryz.un79 (n : Int) (w : World) : (Instr.typeAssert (.iface 56 (.int .i64 n)) 32 207 true).run Tryz.prog w = .ok (.tuple #[.nilIface, .bool false]) w := run_typeAssert_lacksB Tryz.underlying207 (by kernel_rfl) (by kernel_rfl) _ _ _
set_option maxRecDepth 100000 in
set_option maxHeartbeats 400000 in
theorem tell_nil (w : World) : Calls Tryz.prog 23 #[.nilIface] w fun e w' => e = .returned (.int .i64 0) ∧ w' = w := by
  go_enter Tryz.func23, Tryz.ntmps23
  go_wp2
  go_ret
  exact ⟨rfl, rfl⟩
set_option maxRecDepth 100000 in
set_option maxHeartbeats 400000 in
theorem tell_arg (n : Int) (w : World) (hE : TabE w) : Calls Tryz.prog 23 #[.iface 56 (.int .i64 n)] w fun e w' => e = .returned (.int .i64 n) ∧ Below w.heap.size w w' := by
  have hl := hE.lt
  have q := as_hit ⟨w.heap.size, 0, none⟩ n (.int .i64 0) (w.alloc (.cells #[.int .i64 0] 56)) (by rw [World.cell?_alloc_lt _ _ ⟨0, 0, none⟩ hl]; exact hE) (by simp) (by simp)
  have hb := asW_below (w.alloc (.cells #[.int .i64 0] 56)) w.heap.size n (by simp)
  have hc : (asW (w.alloc (.cells #[.int .i64 0] 56)) ⟨w.heap.size, 0, none⟩ n).cell? ⟨w.heap.size, 0, none⟩ = some (.int .i64 n) := by
    unfold asW
    refine World.cell?_setCell_same _ _ _ (u := .int .i64 0) ?_
    rw [World.cell?_alloc_lt _ _ ⟨w.heap.size, 0, none⟩ (by simp; omega), World.cell?_alloc_lt _ _ ⟨w.heap.size, 0, none⟩ (by simp; omega), World.cell?_alloc_lt _ _ ⟨w.heap.size, 0, none⟩ (by simp; omega), World.cell?_alloc_lt _ _ ⟨w.heap.size, 0, none⟩ (by simp)]
    simp
  generalize asW (w.alloc (.cells #[.int .i64 0] 56)) ⟨w.heap.size, 0, none⟩ n = W at q hb hc
  have Q := hide q
  clear q
  go_enter Tryz.func23, Tryz.ntmps23
  go_wp2_with (go_at_call 56; refine Q.out.mono ?_; rintro e w1 ⟨rfl, rfl⟩)
  go_ret
  exact ⟨rfl, ((Below.refl _ w).alloc (Nat.le_refl _) _).trans hb⟩
end Go.Proofs.YtkbaalenbpgheaaGreatDoor

/- A fact that the laws begin with: what is told is opened, till its subject is forgotten. -/
namespace Go.Proofs.YtkbaalenbpgheaaGreatDoor
open Go.RowKit Go.Sort
attribute [local go_sem ↓] Go.wp_at_zero Go.wp_at_succ
set_option linter.unusedSectionVars false
/-- The tables that the program keeps. -/
structure Tabs (w : World) : Prop where
  k : TabK w
  l : TabL w
  m : TabM w
  e : TabE w
theorem Tabs.below {w w' : World} {B : Nat} (h : Tabs w) (hb : Below B w w') (hB : 3 < B) : Tabs w' :=
  ⟨h.k.below hb hB, h.l.below hb (by omega), h.m.below hb (by omega), h.e.below hb (by omega)⟩
/-- A feed and its vault, all of it at B and behind. -/
structure Fd (B : Nat) (w : World) (fb vb : Nat) (mv : Option Nat) (v : Value) (nv : Nat) (sec : ByteArray) (σ : Kept) (rs : List Rec) : Prop where
  feed : FeedV w fb vb v rs
  keys : ProgV w vb mv sec nv σ
  base : B ≤ w.heap.size
  lowF : B ≤ fb
  lowV : B ≤ vb
  lowM : ∀ m, mv = some m → B ≤ m
  lowG : ∀ g, v.ownBlock = some g → B ≤ g
theorem Fd.still {B : Nat} {w w' : World} {fb vb : Nat} {mv : Option Nat} {v : Value} {nv : Nat} {sec : ByteArray} {σ : Kept} {rs : List Rec} (h : Fd B w fb vb mv v nv sec σ rs) (k : Below w.heap.size w w') : Fd B w' fb vb mv v nv sec σ rs :=
  ⟨h.feed.below k, h.keys.below k, Nat.le_trans h.base k.size, h.lowF, h.lowV, h.lowM, h.lowG⟩
theorem Fd.lowL {B : Nat} {w : World} {fb vb : Nat} {mv : Option Nat} {v : Value} {nv : Nat} {sec : ByteArray} {σ : Kept} {rs : List Rec} (h : Fd B w fb vb mv v nv sec σ rs) : ∀ j ∈ fb :: vb :: (mv.toList ++ v.ownBlock.toList), B ≤ j := by
  intro j hj
  rcases List.mem_cons.1 hj with e | hj
  · rw [e]; exact h.lowF
  · rcases List.mem_cons.1 hj with e | hj
    · rw [e]; exact h.lowV
    · rcases List.mem_append.1 hj with hj | hj
      · exact h.lowM j (by simpa using hj)
      · exact h.lowG j (by simpa using hj)
theorem Fd.tell {B : Nat} {w : World} {fb vb : Nat} {mv : Option Nat} {v : Value} {nv : Nat} {sec : ByteArray} {σ : Kept} {rs : List Rec} (h : Fd B w fb vb mv v nv sec σ rs) (T : Tabs w) (hB : 3 < B) (e : Ev) (hr : rightB e = true) (hg : e.k = 3 → (σ e.s.data.toList).2 = true) (hp : sec.size ≤ 60) (hfit : ∀ r ∈ rs, Fit r) (hlen : rs.length < 100) (hn : nv < 1000) (hσ : ∀ l, (σ l).1 ≤ nv) :
    Calls Tryz.prog 43 #[.pointer (some ⟨fb, 0, none⟩), .agg #[.int .i64 e.k, .string e.s, .string e.t, .string e.r, .string e.v]] w fun x w' =>
      x = .returned (.tuple #[.agg (recA (tellR sec σ rs e)), .nilIface]) ∧ (∃ m v', Fd B w' fb vb (some m) v' (nv + 1) sec (tellK σ e) (rs ++ [tellR sec σ rs e]) ∧ (mv = some m ∨ (mv = none ∧ w.heap.size ≤ m)) ∧ (v'.ownBlock = v.ownBlock ∨ ∀ g, v'.ownBlock = some g → w.heap.size ≤ g)) ∧ Stirred (fb :: vb :: (mv.toList ++ v.ownBlock.toList)) w w' ∧ Below B w w' := by
  have hst : ∀ w', Stirred (vb :: mv.toList) w w' → Below B w w' := fun w' t => t.below h.base (fun j hj => h.lowL j (by rcases List.mem_cons.1 hj with e1 | e1 <;> simp [e1]))
  refine (tell_ok w fb vb v rs mv sec nv σ e h.feed h.keys hr hg hp hfit hlen hn hσ T.k T.l (fun w' t => T.k.below (hst w' t) hB)).mono ?_
  rintro x w' ⟨rfl, m, hpm, hmm, v', hfv, hvv, hss⟩
  have hb := hss.below h.base h.lowL
  refine ⟨rfl, ⟨m, v', ⟨hfv, hpm, Nat.le_trans h.base hb.size, h.lowF, h.lowV, fun m' e1 => ?_, fun g e1 => ?_⟩, hmm, hvv⟩, hss, hb⟩
  · cases e1
    rcases hmm with e2 | ⟨_, e2⟩
    · exact h.lowM _ e2
    · exact Nat.le_trans h.base e2
  · rcases hvv with e2 | e2
    · exact h.lowG g (by rw [← e2]; exact e1)
    · exact Nat.le_trans h.base (e2 g e1)
/-- The laws' own secret. -/
def secB : ByteArray := ⟨#[48, 49, 50, 51, 52, 53, 54, 55, 56, 57, 97, 98, 99, 100, 101, 102]⟩
theorem putR : rightB putE = true := by decide +kernel
theorem goneR : rightB goneE = true := by decide +kernel
def T1 : Rec := tellR secB kept0 [] putE
def K1 : Kept := tellK kept0 putE
def K2 : Kept := tellK K1 goneE
theorem T1_q : T1.q = 1 := rfl
theorem T1_s : T1.s = ⟨#[97, 110, 110]⟩ := rfl
theorem T1_g : T1.g = 1 := by decide +kernel
theorem T1_p : T1.p = noneB := rfl
theorem T1_d : T1.d = sealB (keyB secB T1.s T1.g) (nonceR T1) (withR T1) (textB putE) := rfl
theorem T1_size : T1.d.size = 29 := by rw [T1_d, sealB_size]; decide +kernel
theorem T1_fit : Fit T1 := ⟨by rw [T1_q]; decide, by rw [T1_g]; decide, by rw [T1_s]; decide, by rw [T1_p]; decide, by rw [T1_size]; decide⟩
theorem K1_ann : K1 T1.s.data.toList = (1, true) := by decide +kernel
theorem K2_ann : K2 T1.s.data.toList = (1, false) := by decide +kernel
theorem open1 {B : Nat} {w : World} {fb vb : Nat} {mv : Option Nat} {v : Value} {nv : Nat} {rs : List Rec} (h : Fd B w fb vb mv v nv secB K1 rs) (T : Tabs w) :
    Calls Tryz.prog 22 #[.pointer (some ⟨vb, 0, none⟩), .agg #[.int .i64 (T1.q : Int), .string T1.s, .int .i64 (T1.g : Int), .string T1.p, .string T1.d]] w fun x w' => x = .returned (.tuple #[.agg #[.int .i64 1, .string ⟨#[97, 110, 110]⟩, .string ⟨#[116]⟩, .string ⟨#[114]⟩, .string ⟨#[118]⟩], .nilIface]) ∧ Below w.heap.size w w' := by
  have hlt := T.k.lt
  exact open_ok25 _ T1 putE w putR rfl ⟨(fun h => by cases h), (fun h => by rw [T1_g] at h; cases h)⟩ T.l (fun wx hb => T.m.below hb (by omega)) (fun wx hb =>
    unseal_there vb mv secB nv K1 T1 (textB putE) wx T1_fit (h.keys.below hb) (by rw [T1_g]; decide) (by rw [K1_ann, T1_g]) (by rw [K1_ann]) (by decide +kernel) (T.k.below hb hlt) T1_d)
theorem open2 {B : Nat} {w : World} {fb vb : Nat} {mv : Option Nat} {v : Value} {nv : Nat} {rs : List Rec} (h : Fd B w fb vb mv v nv secB K2 rs) :
    Calls Tryz.prog 22 #[.pointer (some ⟨vb, 0, none⟩), .agg #[.int .i64 (T1.q : Int), .string T1.s, .int .i64 (T1.g : Int), .string T1.p, .string T1.d]] w fun x w' => x = .returned (.tuple #[.agg #[.int .i64 0, .string ⟨#[]⟩, .string ⟨#[]⟩, .string ⟨#[]⟩, .string ⟨#[]⟩], .iface 56 (.int .i64 8)]) ∧ Below w.heap.size w w' :=
  open_err _ T1 8 ⟨#[]⟩ w (fun wx hb => unseal_lost vb mv secB nv K2 T1 wx T1_fit.s (h.keys.below hb) (by rw [T1_g]; decide) (by rw [K2_ann, T1_g]; decide) (by rw [K2_ann]; simp))
end Go.Proofs.YtkbaalenbpgheaaGreatDoor

/- Lists of events as a row's condition reads them. -/
namespace Go.Proofs.YtkbaalenbpgheaaGreatDoor
open Go.ChangeShapes Go.WideShapes Go.ChangeAt Go.RowKit
theorem own : ownKnob Tryz.prog.godebug = none := by kernel_rfl
theorem cells36 : Tryz.prog.cellsOf 36 = 5 := by kernel_rfl
theorem cells3 : Tryz.prog.cellsOf 3 = 1 := by kernel_rfl
theorem cells4 : Tryz.prog.cellsOf 4 = 1 := by kernel_rfl
set_option linter.unusedSectionVars false
variable [Inhabited Cl] [Inhabited Ev]

set_option maxRecDepth 100000 in
theorem ev_of {H : Type} {enc : TypeId × Value → H} {W : World} {base : Nat} {sp : Nat → Bool} {held : Bool} {fuel : Nat} {cs : List Value} {x : DataW H × List MemPlace} (h : DataW.trod enc Tryz.prog W base sp held fuel 36 cs = some x) : ∃ e : Ev, cs = evL e := by
  obtain ⟨xs, n, _, _, hl, hlen, hfs⟩ := DataW.trod_struct Tryz.underlying36 h
  rw [cells36] at hl
  match xs, hlen, hfs with
  | [y0, y1, y2, y3, y4], _, hfs =>
    match cs, hl with
    | [c0, c1, c2, c3, c4], _ =>
      have g0 := hfs 0 _ rfl
      have g1 := hfs 1 _ rfl
      have g2 := hfs 2 _ rfl
      have g3 := hfs 3 _ rfl
      have g4 := hfs 4 _ rfl
      obtain ⟨k, e0, _⟩ := DataW.trod_int Tryz.underlying3 g0
      obtain ⟨a, e1, _⟩ := DataW.trod_string Tryz.underlying9 g1
      obtain ⟨b, e2, _⟩ := DataW.trod_string Tryz.underlying9 g2
      obtain ⟨c, e3, _⟩ := DataW.trod_string Tryz.underlying9 g3
      obtain ⟨x, e4, _⟩ := DataW.trod_string Tryz.underlying9 g4
      simp [cells3, cells9] at e0 e1 e2 e3 e4
      exact ⟨⟨k, a, b, c, x⟩, by rw [e0, e1, e2, e3, e4]; rfl⟩
/-- A list of events as the row reads it. -/
theorem evs_of {H : Type} {enc : TypeId × Value → H} {W : World} {ao : Option Addr} {len cap : Nat} {d : DataW H} {p : List MemPlace} (h : DataW.Trod enc Tryz.prog W 0 (fun _ => true) true 22 (.slice ao len cap) d p) : ∃ es, EvRow W (.slice ao len cap) es := by
  obtain ⟨fuel, hf⟩ := h
  rcases Go.Deep.open_slice Tryz.underlying22 hf with ⟨hcs, _⟩ | ⟨a, len', cap', m, n, D, Pl, hcs, _, hl, _, hm, _, hx⟩
  · simp [Value.cells] at hcs
    obtain ⟨rfl, rfl, rfl⟩ := hcs
    exact ⟨[], .inl ⟨⟨_, _, rfl⟩, rfl⟩⟩
  · simp [Value.cells] at hcs
    obtain ⟨rfl, rfl, rfl⟩ := hcs
    rw [cells36] at hx
    have hmc : m = cap := by simpa using hm
    have each : ∀ i, i < len → ∃ e : Ev, ∀ j u, (evL e)[j]? = some u → W.cell? (a.add (i * 5 + j)) = some u := fun i hi => by
      obtain ⟨cs, h1, h2⟩ := hx i (by omega)
      obtain ⟨e, rfl⟩ := ev_of h2
      obtain ⟨_, _, hc⟩ := World.cells?_some h1
      refine ⟨e, fun j u hu => ?_⟩
      have hj : j < 5 := (List.getElem?_eq_some_iff.1 hu).1
      have := hc j hj
      rw [Go.Deep.add_add] at this
      exact this.trans hu
    obtain ⟨f, hF⟩ := Go.Deep.choose_lt each
    by_cases h0 : len = 0
    · subst h0
      exact ⟨[], .inl ⟨⟨_, _, rfl⟩, rfl⟩⟩
    · obtain ⟨b, off, spot⟩ := a
      have z0 := hF 0 (by omega) 0 _ rfl
      have hspot : spot = none := by simpa [Addr.add] using World.cell?_spot z0
      subst hspot
      have hlen : ((List.range len).map f).length = len := by simp
      refine ⟨(List.range len).map f, .inr ⟨b, off, cap, by rw [hlen], by rw [hlen]; omega, ?_, fun k hk i u hu => ?_⟩⟩
      · rw [Addr.add_lit] at z0
        exact block_lt_of_cell z0
      · have hk' : k < len := by simpa using hk
        have hg : ((List.range len).map f)[k]! = f k := by
          rw [getElem!_pos _ k (by simpa using hk')]
          simp
        rw [hg] at hu
        have := hF k hk' i u hu
        rw [Addr.add_lit] at this
        rw [Nat.add_assoc]
        exact this
end Go.Proofs.YtkbaalenbpgheaaGreatDoor
