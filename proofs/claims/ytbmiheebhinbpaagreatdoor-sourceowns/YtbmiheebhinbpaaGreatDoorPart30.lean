/- Texts of this proof, one behind the other. -/
import Derived.Test.YtbmiheebhinbpaaGreatDoorPart29
/- Do of a short event, as it is known whether it happens; what a law reads of lists. -/
namespace Go.Proofs.YtbmiheebhinbpaaGreatDoor
open Go.RowKit Go.Sort
set_option linter.unusedSectionVars false
theorem ownsRow_slice {w : World} {b : Nat} {t : TypeId} {n len : Nat} {v : Value} {l : List Value} (h : w.ownsRow b t n v len l) : ∃ p c, v = .slice p len c := by
  rcases h.2 with ⟨rfl, rfl⟩ | ⟨g, cap, cur, rfl, _⟩
  · exact ⟨_, _, rfl⟩
  · exact ⟨_, _, rfl⟩
theorem do_yes (B : Nat) (w : World) (sb fb vb : Nat) (mt mv : Option Nat) (v : Value) (nt nv : Nat) (sec : ByteArray) (σ : Kept) (τ : Tab) (rs : List Rec) (e : Ev) (h : Src B w sb fb vb mt mv v nt nv sec σ τ rs) (he : Brief e) (hp : sec.size ≤ 60) (hlen : rs.length < 100) (hnv : nv < 1000) (hnt : nt < 1000) (T : Tabs w) (hB : 3 < B) (hd : doesB σ τ e = true) :
    Calls Tryz.prog 27 #[.pointer (some ⟨sb, 0, none⟩), .agg #[.int .i64 e.k, .string e.s, .string e.t, .string e.r, .string e.v]] w fun x w' =>
      ∃ R, R = tellR sec σ rs e ∧ x = .returned (.tuple #[.agg #[.int .i64 (R.q : Int), .string R.s, .int .i64 (R.g : Int), .string R.p, .string R.d], .nilIface]) ∧ (∃ mt' m v', Src B w' sb fb vb mt' (some m) v' (nt + 1) (nv + 1) sec (tellK σ e) (app e τ) (rs ++ [R]) ∧ ∀ j ∈ ownS sb fb vb mt' (some m) v', j ∈ ownS sb fb vb mt mv v ∨ w.heap.size ≤ j) ∧ Stirred (ownS sb fb vb mt mv v) w w' ∧ Below B w w' := by
  refine (do_any B w sb fb vb mt mv v nt nv sec σ τ rs e h he hp hlen hnv hnt T hB).mono ?_
  rintro x w' (⟨_, rfl, hs, ht, hb⟩ | ⟨h1, _⟩)
  · exact ⟨_, rfl, rfl, hs, ht, hb⟩
  · rw [hd] at h1; cases h1
theorem do_no (B : Nat) (w : World) (sb fb vb : Nat) (mt mv : Option Nat) (v : Value) (nt nv : Nat) (sec : ByteArray) (σ : Kept) (τ : Tab) (rs : List Rec) (e : Ev) (h : Src B w sb fb vb mt mv v nt nv sec σ τ rs) (he : Brief e) (hp : sec.size ≤ 60) (hlen : rs.length < 100) (hnv : nv < 1000) (hnt : nt < 1000) (T : Tabs w) (hB : 3 < B) (hd : doesB σ τ e = false) :
    Calls Tryz.prog 27 #[.pointer (some ⟨sb, 0, none⟩), .agg #[.int .i64 e.k, .string e.s, .string e.t, .string e.r, .string e.v]] w fun x w' =>
      (∃ n : Int, x = .returned (.tuple #[.agg #[.int .i64 0, .string ⟨#[]⟩, .int .i64 0, .string ⟨#[]⟩, .string ⟨#[]⟩], .iface 45 (.int .i64 n)])) ∧ Src B w' sb fb vb mt mv v nt nv sec σ τ rs ∧ Below w.heap.size w w' := by
  refine (do_any B w sb fb vb mt mv v nt nv sec σ τ rs e h he hp hlen hnv hnt T hB).mono ?_
  rintro x w' (⟨h1, _⟩ | ⟨_, h2, h3, h4⟩)
  · rw [hd] at h1; cases h1
  · exact ⟨h2, h3, h4⟩
theorem evs_at {w wx : World} {b o : Nat} {e : Ev} {B : Nat} (hb : Below B w wx) (hB : w.heap.size ≤ B) (c : ∀ i u, (evL e)[i]? = some u → w.cell? ⟨b, o + i, none⟩ = some u) :
    wx.cell? ⟨b, o, none⟩ = some (.int .i64 e.k) ∧ wx.cell? ⟨b, o + 1, none⟩ = some (.string e.s) ∧ wx.cell? ⟨b, o + 2, none⟩ = some (.string e.t) ∧ wx.cell? ⟨b, o + 3, none⟩ = some (.string e.r) ∧ wx.cell? ⟨b, o + 4, none⟩ = some (.string e.v) ∧ b < wx.heap.size := by
  have lt : b < w.heap.size := block_lt_of_cell (c 0 _ rfl)
  have g : ∀ i u, (evL e)[i]? = some u → wx.cell? ⟨b, o + i, none⟩ = some u := fun i u hu => (hb.cell (p := ⟨b, o + i, none⟩) (by show b < B; omega)).trans (c i u hu)
  exact ⟨g 0 _ rfl, g 1 _ rfl, g 2 _ rfl, g 3 _ rfl, g 4 _ rfl, Nat.lt_of_lt_of_le lt hb.size⟩
def ptrInt (p : Value) (w : World) : Nat := match p with
  | .pointer (some a) => match w.cell? a with
    | some (.int _ n) => n.toNat
    | _ => 0
  | _ => 0
theorem ptrInt_of {w : World} {I k : Nat} (h : HasR w I 3 #[.int .i64 (k : Int)]) : ptrInt (.pointer (some ⟨I, 0, none⟩)) w = k := by
  have := h.cell 0
  unfold ptrInt
  simp only
  rw [this]
  simp
end Go.Proofs.YtbmiheebhinbpaaGreatDoor

/- Two rows of cells that are the same, held against each other by the law. -/
namespace Go.Proofs.YtbmiheebhinbpaaGreatDoor
open Go.RowKit Go.Sort
attribute [local go_sem ↓] Go.wp_at_zero Go.wp_at_succ
set_option linter.unusedSectionVars false
variable [Inhabited Cl]
theorem four_of {W : World} {blk : Nat} {d : Array Cl} {i : Nat} (h : HoldsK cellL 4 W blk 0 d) (hi : i < d.size) : W.cell? ⟨blk, i * 4, none⟩ = some (.string d[i]!.t) ∧ W.cell? ⟨blk, i * 4 + 1, none⟩ = some (.string d[i]!.r) ∧ W.cell? ⟨blk, i * 4 + 2, none⟩ = some (.string d[i]!.s) ∧ W.cell? ⟨blk, i * 4 + 3, none⟩ = some (.string d[i]!.v) := by
  refine ⟨?_, ?_, ?_, ?_⟩
  · have := (h.cell (i := i) (c := 0) hi (by omega)).1
    simpa [cellL] using this
  · have := (h.cell (i := i) (c := 1) hi (by omega)).1
    simpa [cellL] using this
  · have := (h.cell (i := i) (c := 2) hi (by omega)).1
    simpa [cellL] using this
  · have := (h.cell (i := i) (c := 3) hi (by omega)).1
    simpa [cellL] using this
theorem RowC.at {w : World} {base n cap k : Nat} {p : Option Addr} {l : List Cl} (h : RowC w base (.slice p n cap) l) (hk : k < l.length) : ∃ g, p = some ⟨g, 0, none⟩ ∧ g < w.heap.size ∧ l.length ≤ cap ∧ w.cell? ⟨g, k * 4, none⟩ = some (.string l[k]!.t) ∧ w.cell? ⟨g, k * 4 + 1, none⟩ = some (.string l[k]!.r) ∧ w.cell? ⟨g, k * 4 + 2, none⟩ = some (.string l[k]!.s) ∧ w.cell? ⟨g, k * 4 + 3, none⟩ = some (.string l[k]!.v) := by
  rcases h with ⟨_, rfl⟩ | ⟨g, cap', e, h1, h2, h3, h4, h5⟩
  · simp at hk
  · injection e with e1 e2 e3
    subst e1 e3
    obtain ⟨c0, c1, c2, c3⟩ := four_of h5 (i := k) (by rw [List.size_toArray]; exact hk)
    have e : l.toArray[k]! = l[k]! := by simp
    rw [e] at c0 c1 c2 c3
    exact ⟨g, rfl, h2, h3, c0, c1, c2, c3⟩
theorem RowC.slice {w : World} {base : Nat} {v : Value} {l : List Cl} (h : RowC w base v l) : ∃ p cap, v = .slice p l.length cap := by
  rcases h with ⟨rfl, rfl⟩ | ⟨g, cap, rfl, _⟩
  · exact ⟨_, _, rfl⟩
  · exact ⟨_, _, rfl⟩
theorem below_dn {B : Nat} {a w : World} (h : Below B a w) (n : Nat) : Below B a (w.drewN n) := h.trans ⟨rfl, rfl, rfl, Nat.le_refl _, fun _ _ => rfl⟩
end Go.Proofs.YtbmiheebhinbpaaGreatDoor

/- The law's own closure: a cell at the place of one that was; slices.IndexFunc of cells. -/
namespace Go.Proofs.YtbmiheebhinbpaaGreatDoor
open Go.RowKit Go.Sort Go.Shelf
attribute [local go_sem ↓] Go.wp_at_zero Go.wp_at_succ
set_option linter.unusedSectionVars false
def laysIdx_ren : Go.Shelf.Ren := ⟨fun | 6 => 40 | n => n, fun | 22 => 57 | 23 => 59 | 25 => 62 | 4 => 4 | 3 => 3 | 0 => 0 | n => n, fun | n => n⟩
theorem laysIdx : Go.Proofs.SlLaysH0.n6 Tryz.prog laysIdx_ren := {
  mixed := by kernel_rfl
  f6 := ⟨Tryz.f40.name, by decide, Tryz.func40.trans (congrArg some (by kernel_rfl))⟩
  t0 := Tryz.underlying0
  a0 := Tryz.isAgg0
  z0 := Tryz.sizeOf0
  v0 := Tryz.zeroValue0
  t3 := Tryz.underlying3
  a3 := Tryz.isAgg3
  z3 := Tryz.sizeOf3
  v3 := Tryz.zeroValue3
  t4 := Tryz.underlying4
  a4 := Tryz.isAgg4
  z4 := Tryz.sizeOf4
  v4 := Tryz.zeroValue4
  t22 := Tryz.underlying57
  a22 := Tryz.isAgg57
  z22 := Tryz.sizeOf57
  v22 := Tryz.zeroValue57
  t25 := Tryz.underlying62
  a25 := Tryz.isAgg62
  z25 := Tryz.sizeOf62
  v25 := Tryz.zeroValue62 }
variable [Inhabited Cl] [Inhabited Ev]
/-- At the place of d. -/
def hereC (d c : Cl) : Bool := decide (c.t = d.t) && decide (c.r = d.r)
set_option maxRecDepth 100000 in
set_option maxHeartbeats 1000000 in
theorem here_any (base bw bk k : Nat) (v : Value) (ds : List Cl) (c : Cl) (W : World) (hv : RowC W base v ds) (hk : k < ds.length) (hw : W.cell? ⟨bw, 0, none⟩ = some v) (hb : W.cell? ⟨bk, 0, none⟩ = some (.int .i64 (k : Int))) :
    Calls Tryz.prog 41 #[.agg #[.string c.t, .string c.r, .string c.s, .string c.v], .pointer (some ⟨bw, 0, none⟩), .pointer (some ⟨bk, 0, none⟩)] W fun x w' => x = .returned (.bool (hereC ds[k]! c)) ∧ Below W.heap.size W w' := by
  obtain ⟨p, cap, rfl⟩ := hv.slice
  obtain ⟨g, rfl, hg, hcap, c0, c1, c2, c3⟩ := hv.at hk
  have hbw : bw < W.heap.size := block_lt_of_cell hw
  have hbk : bk < W.heap.size := block_lt_of_cell hb
  unfold hereC
  generalize ds[k]! = d at c0 c1 c2 c3 ⊢
  have s1 := same_bytes c.t d.t
  have s2 := same_bytes c.r d.r
  have bel : Below W.heap.size W (W.alloc (.cells #[.string c.t, .string c.r, .string c.s, .string c.v] 59)) := (Below.refl _ W).alloc (Nat.le_refl _) _
  clear hv
  cases d1 : decide (c.t = d.t)
  · rw [d1] at s1
    go_enter Tryz.func41, Tryz.ntmps41
    go_wp2
    go_quiet (fail)
    go_wp2
    go_ret
    exact ⟨ret_val (by simp), below_dn bel _⟩
  · rw [d1] at s1
    generalize decide (c.r = d.r) = q at s2 ⊢
    go_enter Tryz.func41, Tryz.ntmps41
    go_wp2
    go_quiet (fail)
    go_wp2
    go_ret
    exact ⟨ret_val (by simp), below_dn bel _⟩
set_option maxRecDepth 100000 in
set_option maxHeartbeats 1000000 in
theorem idxNone (p : Option Addr) (c : Nat) (fv : Value) (w : World) : Calls Tryz.prog 40 #[.slice p 0 c, fv] w fun e w' => e = .returned (.int .i64 (-1)) ∧ w' = w := by
  go_enter Tryz.func40, Tryz.ntmps40
  go_wp2
  refine wp_loop_rounds 1 ?_
  rw [rounds_succ]
  go_wp2
  go_ret
  exact ⟨rfl, rfl⟩
/-- Where a cell lies at the place of one that was. -/
def placeC (d : Cl) (cs : List Cl) : Int := Lib.idxBy (fun _ y => hereC d y) cs default
set_option maxRecDepth 100000 in
theorem index_any (base base2 bw bk k : Nat) (v u : Value) (ds cs : List Cl) (w : World) (hv : RowC w base v ds) (hu : RowC w base2 u cs) (hk : k < ds.length) (hl : cs.length ≤ 1000) (hw : w.cell? ⟨bw, 0, none⟩ = some v) (hb : w.cell? ⟨bk, 0, none⟩ = some (.int .i64 (k : Int))) :
    Calls Tryz.prog 40 #[u, .func (.func 41) #[] #[.pointer (some ⟨bw, 0, none⟩), .pointer (some ⟨bk, 0, none⟩)]] w fun e w' => e = .returned (.int .i64 (placeC ds[k]! cs)) ∧ Below w.heap.size w w' := by
  have lw : bw < w.heap.size := block_lt_of_cell hw
  have lk : bk < w.heap.size := block_lt_of_cell hb
  have hp : PredBelow Tryz.prog 41 #[.pointer (some ⟨bw, 0, none⟩), .pointer (some ⟨bk, 0, none⟩)] (fun x => .agg (cellL x).toArray) (hereC ds[k]!) w := fun W x hB =>
    (here_any base bw bk k v ds x W (hv.below hB (Nat.le_refl _)) hk ((hB.cell (p := ⟨bw, 0, none⟩) lw).trans hw) ((hB.cell (p := ⟨bk, 0, none⟩) lk).trans hb)).mono fun _ _ ⟨he, h⟩ => ⟨he, hB.trans (h.mono hB.size)⟩
  rcases hu with ⟨rfl, rfl⟩ | ⟨g, cap, rfl, _, hg, hc, _, H⟩
  · exact (idxNone _ _ _ w).mono fun e w' ⟨he, hw⟩ => ⟨he, by rw [hw]; exact Below.refl _ _⟩
  · have h := AnyQ.slices_IndexFunc (ρ := laysIdx_ren) laysIdx 4 isAgg42 sizeOf42 cellL (fun _ => rfl) (hereC ds[k]!) 41 _ (enters_of Tryz.func41 (by kernel_rfl) rfl) g 0 cs.length cap cs w hp (Nat.le_refl _) (by omega) hg (RowC.cells H)
    rw [List.take_length] at h
    exact h
end Go.Proofs.YtbmiheebhinbpaaGreatDoor
