/- One table beside the list's box, as the law TableLast has them; what the library tells of a list behind a place, and of cells. -/
import Derived.Test.YtpfihhilgeihoaaLater
namespace Go.Proofs.Ytpfihhilgeihoaa
open Go.RowKit Go.Sort
attribute [local go_sem ↓] Go.wp_at_zero Go.wp_at_succ
set_option linter.unusedSectionVars false
variable [Inhabited Cl] [Inhabited Ev]
structure Solo (W w : World) (X : Nat) (mx : Option Nat) (n : Nat) (σ : Tab) (v : Value) : Prop where
  x : TabV w X mx n σ
  low : ∀ k ∈ X :: mx.toList, W.heap.size + 1 ≤ k
  box : HasR w W.heap.size 29 #[v]
  below : Below W.heap.size W w
theorem Solo.step {W w w' : World} {X : Nat} {mx mx' : Option Nat} {n m : Nat} {σ σ' : Tab} {v : Value} (h : Solo W w X mx n σ v) (k : Upd w w' X mx mx' m σ') : Solo W w' X mx' m σ' v :=
  have hs : W.heap.size + 1 ≤ w.heap.size := h.box.lt
  ⟨k.1, k.low hs h.low, h.box.turned k.2.2 (fun hm => by have := h.low _ hm; omega), h.below.trans (k.below h.below.size (fun j hj => by have := h.low j hj; omega))⟩
theorem Solo.still {W w w' : World} {X : Nat} {mx : Option Nat} {n : Nat} {σ : Tab} {v : Value} (h : Solo W w X mx n σ v) (k : Below w.heap.size w w') : Solo W w' X mx n σ v :=
  ⟨h.x.below k, h.low, h.box.below k h.box.lt, h.below.trans (k.mono h.below.size)⟩
theorem solo_new {W w : World} {v : Value} (hb : Below W.heap.size W w) (hE : HasR w W.heap.size 29 #[v]) : Solo W (w.alloc (.cells #[.map none] 33)) w.heap.size none 0 tab0 v := by
  have hl := hE.lt
  refine ⟨tabV_new w, ?_, hE.alloc _, hb.alloc hb.size _⟩
  intro k hk
  simp at hk
  omega
/-- The box's cell, and an event's, kept. -/
theorem Solo.keep {W w : World} {X : Nat} {mx : Option Nat} {n : Nat} {σ : Tab} {v : Value} {b o : Nat} {e : Ev} (h : Solo W w X mx n σ v) (c : ∀ i u, (evL e)[i]? = some u → W.cell? ⟨b, o + i, none⟩ = some u) :
    w.cell? ⟨W.heap.size, 0, none⟩ = some v ∧ w.cell? ⟨b, o, none⟩ = some (.int .i64 e.k) ∧ w.cell? ⟨b, o + 1, none⟩ = some (.string e.s) ∧ w.cell? ⟨b, o + 2, none⟩ = some (.string e.t) ∧ w.cell? ⟨b, o + 3, none⟩ = some (.string e.r) ∧ w.cell? ⟨b, o + 4, none⟩ = some (.string e.v) :=
  have g : ∀ i u, (evL e)[i]? = some u → w.cell? ⟨b, o + i, none⟩ = some u := fun i u hu => (h.below.cell (p := ⟨b, o + i, none⟩) (block_lt_of_cell (c i u hu))).trans (c i u hu)
  ⟨h.box.cell 0, g 0 _ rfl, g 1 _ rfl, g 2 _ rfl, g 3 _ rfl, g 4 _ rfl⟩
theorem EvRow.spot {w : World} {ao : Option Addr} {n cap : Nat} {es : List Ev} {k : Nat} (h : EvRow w (.slice ao n cap) es) (hk : k < es.length) : ∃ b off, ao = some ⟨b, off, none⟩ ∧ es.length ≤ cap ∧ ∀ i u, (evL es[k]!)[i]? = some u → w.cell? ⟨b, off + k * 5 + i, none⟩ = some u := by
  rcases h with ⟨_, rfl⟩ | ⟨b, off, cap', hv, hc, hb, hx⟩
  · simp at hk
  · simp only [Value.slice.injEq] at hv
    exact ⟨b, off, hv.1, by rw [hv.2.2]; exact hc, hx k hk⟩
theorem drop_at {es : List Ev} {m j : Nat} (h : m + j < es.length) : (es.drop m)[j]! = es[m + j]! := by
  rw [getElem!_pos (es.drop m) j (by simp; omega), getElem!_pos es (m + j) h, List.getElem_drop]
theorem EvRow.drop {w : World} {b off n cap : Nat} {es : List Ev} {m : Nat} {cap' : Nat} (h : EvRow w (.slice (some ⟨b, off, none⟩) n cap) es) (hm : m < es.length) (hc : es.length - m ≤ cap') : EvRow w (.slice (some ⟨b, off + m * 5, none⟩) (es.length - m) cap') (es.drop m) := by
  rcases h with ⟨_, rfl⟩ | ⟨b', off', cap2, hv, hc2, hb, hx⟩
  · simp at hm
  · simp only [Value.slice.injEq, Option.some.injEq, Addr.mk.injEq, and_true] at hv
    obtain ⟨⟨rfl, rfl⟩, _, _⟩ := hv
    refine .inr ⟨b, off + m * 5, cap', by rw [List.length_drop], by rw [List.length_drop]; exact hc, hb, fun j hj i u hu => ?_⟩
    rw [List.length_drop] at hj
    rw [drop_at (by omega)] at hu
    have := hx (m + j) (by omega) i u hu
    rw [← this]
    congr 2
    omega
theorem errOf_yes {e : Ev} (h : rightB e = true) : errOf e = .nilIface := by unfold errOf; rw [if_pos h]
theorem errOf_no {e : Ev} (h : rightB e = false) : errOf e = .iface 60 (.int .i64 1) := by unfold errOf; rw [if_neg (by rw [h]; simp)]
theorem err_eq (w : World) : (binOp .eql 24 (.iface 60 (.int .i64 1)) .nilIface).run Try.prog w = .ok (.bool false) w := by kernel_rfl
theorem getV_some {σ : Tab} {c : Cl} (h : σ c.t c.r = some (c.s, c.v)) : getV σ c.t c.r = .tuple #[.agg #[.string c.t, .string c.r, .string c.s, .string c.v], .nilIface] := by
  unfold getV
  rw [atC_some h, h]
  rfl
theorem InOrd.step {σ : Tab} {cs : List Cl} {j : Nat} (h : InOrd σ cs) (h0 : 0 < j) (hj : j < cs.length) : decide (cmpC cs[j - 1]! cs[j]! ≥ 0) = false := by
  have := List.pairwise_iff_getElem.1 h.1 (j - 1) j (by omega) hj (by omega)
  rw [getElem!_pos cs (j - 1) (by omega), getElem!_pos cs j hj]
  rw [← cmpC_lt] at this
  simp only [decide_eq_true_eq] at this
  exact decide_eq_false (by omega)
set_option maxRecDepth 100000 in
set_option maxHeartbeats 1000000 in
theorem containsNoneC (p : Option Addr) (c : Nat) (fv : Value) (w : World) : Calls Try.prog 22 #[.slice p 0 c, fv] w fun e w' => e = .returned (.bool false) ∧ w' = w := by
  have I := hide (indexNoneC p c fv w)
  go_enter Try.func22, Try.ntmps22
  go_wp2_with (go_at_call 46; (with_reducible refine I.out.mono ?_); rintro e w1 ⟨rfl, rfl⟩)
  go_ret
  exact ⟨rfl, rfl⟩
/-- slices.ContainsFunc over cells: a subject's. -/
theorem anyOwn (base : Nat) (v : Value) (cs : List Cl) (B I b off n cap i : Nat) (e : Ev) (w : World) (hv : RowC w base v cs) (hl : cs.length ≤ 1000) (h : Capt w B I b off n cap i e) :
    Calls Try.prog 22 #[v, .func (.func 23) #[] #[.pointer (some ⟨B, 0, none⟩), .pointer (some ⟨I, 0, none⟩)]] w fun x w' => x = .returned (.bool (cs.any fun c => decide (c.s = e.s))) ∧ Below w.heap.size w w' := by
  rcases hv with ⟨rfl, rfl⟩ | ⟨g, cap, rfl, _, hg, hc, _, H⟩
  · exact (containsNoneC _ _ _ w).mono fun e w' ⟨he, hw⟩ => ⟨he, by rw [hw]; exact Below.refl _ _⟩
  · have h := AnyQ.slices_ContainsFunc (ρ := laysAnyCell_ren) laysAnyCell 4 isAgg42 sizeOf42 cellL (fun _ => rfl) (fun c : Cl => decide (c.s = e.s)) 23 #[.pointer (some ⟨B, 0, none⟩), .pointer (some ⟨I, 0, none⟩)] (enters_of Try.func23 (by kernel_rfl) rfl) g 0 cs.length cap cs w
      (fun W x hb => (ownFn_any x B I b off n _ i e W (h.below hb)).mono fun _ _ ⟨he, h2⟩ => ⟨he, hb.trans (h2.mono hb.size)⟩) (Nat.le_refl _) (by omega) hg (RowC.cells H)
    rw [List.take_length] at h
    exact h
/-- slices.ContainsFunc over the events behind a place. -/
theorem anyLater (v : Value) (fs : List Ev) (B I b off n cap i : Nat) (e : Ev) (w : World) (hv : EvRow w v fs) (hl : fs.length ≤ 1000) (h : Capt w B I b off n cap i e) :
    Calls Try.prog 17 #[v, .func (.func 18) #[] #[.pointer (some ⟨B, 0, none⟩), .pointer (some ⟨I, 0, none⟩)]] w fun x w' => x = .returned (.bool (fs.any (laterB e))) ∧ Below w.heap.size w w' :=
  containsEv v fs 18 _ (enters_of Try.func18 (by kernel_rfl) rfl) (laterB e) w hv hl
    (fun W x hb => (laterFn_any x e B I b off n cap i W (h.below hb)).mono fun _ _ ⟨he, h2⟩ => ⟨he, hb.trans (h2.mono hb.size)⟩)
def goneOfB (e f : Ev) : Bool := decide (f.k = 3) && (decide (f.s = e.s) && rightB f)
def putOfB (e f : Ev) : Bool := decide (f.k = 1) && decide (f.s = e.s)
theorem anyGone (v : Value) (fs : List Ev) (B I b off n cap i : Nat) (e : Ev) (w : World) (hv : EvRow w v fs) (hl : fs.length ≤ 1000) (h : Capt w B I b off n cap i e) :
    Calls Try.prog 17 #[v, .func (.func 20) #[] #[.pointer (some ⟨B, 0, none⟩), .pointer (some ⟨I, 0, none⟩)]] w fun x w' => x = .returned (.bool (fs.any (goneOfB e))) ∧ Below w.heap.size w w' :=
  containsEv v fs 20 _ (enters_of Try.func20 (by kernel_rfl) rfl) (goneOfB e) w hv hl
    (fun W x hb => (goneFnE_any x e B I b off n cap i W (h.below hb)).mono fun _ _ ⟨he, h2⟩ => ⟨he, hb.trans (h2.mono hb.size)⟩)
theorem anyPut (v : Value) (fs : List Ev) (B I b off n cap i : Nat) (e : Ev) (w : World) (hv : EvRow w v fs) (hl : fs.length ≤ 1000) (h : Capt w B I b off n cap i e) :
    Calls Try.prog 17 #[v, .func (.func 21) #[] #[.pointer (some ⟨B, 0, none⟩), .pointer (some ⟨I, 0, none⟩)]] w fun x w' => x = .returned (.bool (fs.any (putOfB e))) ∧ Below w.heap.size w w' :=
  containsEv v fs 21 _ (enters_of Try.func21 (by kernel_rfl) rfl) (putOfB e) w hv hl
    (fun W x hb => (putFn_any x e B I b off n cap i W (h.below hb)).mono fun _ _ ⟨he, h2⟩ => ⟨he, hb.trans (h2.mono hb.size)⟩)
theorem compare_low (x y : Cl) (W : World) :
    Calls Try.prog 15 #[.agg #[.string x.t, .string x.r, .string x.s, .string x.v], .agg #[.string y.t, .string y.r, .string y.s, .string y.v]] W fun e w' => e = .returned (.int .i64 (cmpC x y)) ∧ Below W.heap.size W w' :=
  (compare_any x y W).mono fun _ _ ⟨he, q, os, hw⟩ => ⟨he, by
    rw [hw]
    refine ⟨rfl, rfl, rfl, ?_, fun k hk => ?_⟩
    · simp [grow]
    · exact Array.getElem?_append_left hk⟩
theorem cell_same (c : Cl) (w : World) : (binOp .neq 42 (.agg #[.string c.t, .string c.r, .string c.s, .string c.v]) (.agg #[.string c.t, .string c.r, .string c.s, .string c.v])).run Try.prog w = .ok (.bool false) w := by
  rw [cell_neq, eqC_self]; rfl
/-- A cell of a row, and the one ahead of it, kept. -/
theorem row_keep {w : World} {base g n cap : Nat} {cs : List Cl} {j : Nat} {c : Cl} (h : RowC w base (.slice (some ⟨g, 0, none⟩) n cap) cs) (hj : j < cs.length) (hc : cs[j]! = c) :
    w.cell? ⟨g, j * 4, none⟩ = some (.string c.t) ∧ w.cell? ⟨g, j * 4 + 1, none⟩ = some (.string c.r) ∧ w.cell? ⟨g, j * 4 + 2, none⟩ = some (.string c.s) ∧ w.cell? ⟨g, j * 4 + 3, none⟩ = some (.string c.v) := by
  obtain ⟨g', hg, _, a0, a1, a2, a3⟩ := h.at hj
  simp only [Option.some.injEq, Addr.mk.injEq, and_true] at hg
  subst hg
  rw [hc] at a0 a1 a2 a3
  exact ⟨a0, a1, a2, a3⟩
theorem row_keep0 {w : World} {base g n cap : Nat} {cs : List Cl} {c : Cl} (h : RowC w base (.slice (some ⟨g, 0, none⟩) n cap) cs) (hj : 0 < cs.length) (hc : cs[0]! = c) :
    w.cell? ⟨g, 0, none⟩ = some (.string c.t) ∧ w.cell? ⟨g, 1, none⟩ = some (.string c.r) ∧ w.cell? ⟨g, 2, none⟩ = some (.string c.s) ∧ w.cell? ⟨g, 3, none⟩ = some (.string c.v) := by
  have := row_keep h hj hc
  simpa only [Nat.zero_mul, Nat.zero_add] using this
theorem box42 {w w' : World} (h : Below (w.alloc (.cells #[.string ⟨#[]⟩, .string ⟨#[]⟩, .string ⟨#[]⟩, .string ⟨#[]⟩] 42)).heap.size (w.alloc (.cells #[.string ⟨#[]⟩, .string ⟨#[]⟩, .string ⟨#[]⟩, .string ⟨#[]⟩] 42)) w') (B : Nat) (hB : w.heap.size = B) :
    (w'.cell? ⟨B, 0, none⟩ = some (.string ⟨#[]⟩) ∧ w'.cell? ⟨B, 1, none⟩ = some (.string ⟨#[]⟩) ∧ w'.cell? ⟨B, 2, none⟩ = some (.string ⟨#[]⟩) ∧ w'.cell? ⟨B, 3, none⟩ = some (.string ⟨#[]⟩)) ∧ w'.frozen? ⟨B, 0, none⟩ = false ∧ w'.frozen? ⟨B, 1, none⟩ = false ∧ w'.frozen? ⟨B, 2, none⟩ = false ∧ w'.frozen? ⟨B, 3, none⟩ = false := by
  subst hB
  have n0 := HasR.new w 42 #[.string ⟨#[]⟩, .string ⟨#[]⟩, .string ⟨#[]⟩, .string ⟨#[]⟩]
  have n := n0.below h n0.lt
  exact ⟨⟨n.cell 0, n.cell 1, n.cell 2, n.cell 3⟩, n.free 0, n.free 1, n.free 2, n.free 3⟩
theorem RowC.lt_at {w : World} {base g n cap : Nat} {cs : List Cl} {j : Nat} (h : RowC w base (.slice (some ⟨g, 0, none⟩) n cap) cs) (hj : j < cs.length) : g < w.heap.size ∧ g ≠ w.heap.size ∧ w.heap.size ≠ g := by
  obtain ⟨g', hg, hl, _⟩ := h.at hj
  simp only [Option.some.injEq, Addr.mk.injEq, and_true] at hg
  subst hg
  exact ⟨hl, by omega, by omega⟩
/-- What the law says, as mathematics. -/
theorem put_there {es : List Ev} {k : Nat} {cs : List Cl} (hk : k < es.length) (hr : rightB es[k]! = true) (h1 : es[k]!.k = 1) (hl : (es.drop (k + 1)).any (laterB es[k]!) = false) (ho : InOrd (runs es tab0) cs) : (⟨es[k]!.t, es[k]!.r, es[k]!.s, es[k]!.v⟩ : Cl) ∈ cs := by
  rw [getElem!_pos es k hk] at hr h1 hl ⊢
  exact (ho.2 _).2 (last_put hk hr h1 hl)
theorem gone_there {es : List Ev} {k : Nat} {cs : List Cl} {e : Ev} (hk : k < es.length) (hg : (es.drop (k + 1)).any (goneOfB e) = true) (hp : (es.drop (k + 1)).any (putOfB e) = false) (ho : InOrd (runs es tab0) cs) : (cs.any fun c => decide (c.s = e.s)) = false := by
  rw [List.any_eq_false]
  intro c hc
  have h1 := (ho.2 c).1 hc
  obtain ⟨g, hg1, hg2⟩ := List.any_eq_true.1 hg
  unfold goneOfB at hg2
  simp only [Bool.and_eq_true, decide_eq_true_eq] at hg2
  have h2 := last_gone hk (s := e.s) ⟨g, hg1, hg2.1, hg2.2.1, hg2.2.2⟩ (fun f hf hk1 hs => by
    have := List.any_eq_false.1 hp f hf
    unfold putOfB at this
    simp [hk1, hs] at this) c.t c.r
  rw [h1, ownB_some] at h2
  simpa using h2
/-- The place in the list, the list's box and the row of cells, as the last loop has them. -/
structure Seek (W w : World) (I k : Nat) (v : Value) (base : Nat) (rv : Value) (ds : List Cl) : Prop where
  i : HasR w I 3 #[.int .i64 k]
  box : HasR w W.heap.size 29 #[v]
  below : Below W.heap.size W w
  row : RowC w base rv ds
theorem Seek.still {W w w' : World} {I k : Nat} {v : Value} {base : Nat} {rv : Value} {ds : List Cl} (h : Seek W w I k v base rv ds) (b : Below w.heap.size w w') : Seek W w' I k v base rv ds :=
  ⟨h.i.below b h.i.lt, h.box.below b h.box.lt, h.below.trans (b.mono h.below.size), h.row.still b⟩
theorem Seek.capt {W w : World} {I k : Nat} {base : Nat} {rv : Value} {ds : List Cl} {b off n cap : Nat} {e : Ev} (h : Seek W w I k (.slice (some ⟨b, off, none⟩) n cap) base rv ds) (hk : k < n) (c : ∀ i u, (evL e)[i]? = some u → W.cell? ⟨b, off + k * 5 + i, none⟩ = some u) : Capt w W.heap.size I b off n cap k e :=
  have g : ∀ i u, (evL e)[i]? = some u → w.cell? ⟨b, off + k * 5 + i, none⟩ = some u := fun i u hu => (h.below.cell (p := ⟨b, off + k * 5 + i, none⟩) (block_lt_of_cell (c i u hu))).trans (c i u hu)
  ⟨h.box.cell 0, h.i.cell 0, hk, g 0 _ rfl, g 1 _ rfl, g 2 _ rfl, g 3 _ rfl, g 4 _ rfl⟩
def ptrInt (p : Value) (w : World) : Nat := match p with
  | .pointer (some a) => match w.cell? a with
    | some (.int _ n) => n.toNat
    | _ => 0
  | _ => 0
theorem Seek.at {W w : World} {I k : Nat} {v : Value} {base : Nat} {rv : Value} {ds : List Cl} (h : Seek W w I k v base rv ds) : ptrInt (.pointer (some ⟨I, 0, none⟩)) w = k := by
  have := h.i.cell 0
  unfold ptrInt
  simp only
  rw [this]
  simp
theorem Seek.next {W w w' : World} {I k : Nat} {v : Value} {base : Nat} {rv : Value} {ds : List Cl} (h : Seek W w I k v base rv ds) (b : Below w.heap.size w w') (j : Nat) : Seek W (w'.alloc (.cells #[.int .i64 j] 3)) w'.heap.size j v base rv ds :=
  have s := h.still (b.alloc b.size (.cells #[.int .i64 j] 3))
  ⟨HasR.new w' 3 _, s.box, s.below, s.row⟩
theorem seek_keep {W w : World} {I k : Nat} {base : Nat} {rv : Value} {ds : List Cl} {b off n cap : Nat} {e : Ev} (h : Seek W w I k (.slice (some ⟨b, off, none⟩) n cap) base rv ds) (hk : k < n) (c : ∀ i u, (evL e)[i]? = some u → W.cell? ⟨b, off + k * 5 + i, none⟩ = some u) :
    w.cell? ⟨W.heap.size, 0, none⟩ = some (.slice (some ⟨b, off, none⟩) n cap) ∧ w.cell? ⟨I, 0, none⟩ = some (.int .i64 k) ∧ w.cell? ⟨b, off + k * 5 + 1, none⟩ = some (.string e.s) ∧ w.cell? ⟨b, off + k * 5 + 2, none⟩ = some (.string e.t) ∧ w.cell? ⟨b, off + k * 5 + 3, none⟩ = some (.string e.r) ∧ w.cell? ⟨b, off + k * 5 + 4, none⟩ = some (.string e.v) :=
  have q := h.capt hk c
  ⟨q.l, q.p, q.c1, q.c2, q.c3, q.c4⟩
theorem Seek.fin {W w w' : World} {I k : Nat} {v : Value} {base : Nat} {rv : Value} {ds : List Cl} (h : Seek W w I k v base rv ds) (b : Below w.heap.size w w') {n : Nat} (hk : k < n) :
    (∃ I' k' : Nat, k' ≤ n ∧ Value.pointer (some ⟨w'.heap.size, 0, none⟩) = Value.pointer (some ⟨I', 0, none⟩) ∧ Seek W (w'.alloc (.cells #[.int .i64 ((k : Int) + 1)] 3)) I' k' v base rv ds) ∧
      n - ptrInt (.pointer (some ⟨w'.heap.size, 0, none⟩)) (w'.alloc (.cells #[.int .i64 ((k : Int) + 1)] 3)) < n - ptrInt (.pointer (some ⟨I, 0, none⟩)) w := by
  have hs : Seek W (w'.alloc (.cells #[.int .i64 ((k : Int) + 1)] 3)) w'.heap.size (k + 1) v base rv ds := h.next b (k + 1)
  refine ⟨⟨w'.heap.size, k + 1, hk, rfl, hs⟩, ?_⟩
  rw [hs.at, h.at]
  omega
theorem EvRow.tail {w : World} {b off cap : Nat} {es : List Ev} {m : Nat} (h : EvRow w (.slice (some ⟨b, off, none⟩) es.length cap) es) (hm : m ≤ es.length) (hc : es.length ≤ cap) : EvRow w (.slice (some ⟨b, off + m * 5, none⟩) (es.length - m) (cap - m)) (es.drop m) := by
  by_cases h0 : m < es.length
  · exact h.drop h0 (by omega)
  · have : m = es.length := by omega
    subst this
    exact .inl ⟨⟨_, _, by rw [Nat.sub_self]⟩, List.drop_length⟩
end Go.Proofs.Ytpfihhilgeihoaa
