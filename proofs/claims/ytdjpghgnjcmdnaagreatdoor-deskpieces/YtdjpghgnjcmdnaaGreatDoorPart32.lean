/- Texts of this proof, one behind the other. -/
import Derived.Test.YtdjpghgnjcmdnaaGreatDoorPart31
/- A desk's source, made anew. -/
namespace Go.Proofs.YtdjpghgnjcmdnaaGreatDoor
open Go.RowKit Go.Shelf Go.Sort Go.Maps
attribute [local go_sem ↓] Go.wp_at_zero Go.wp_at_succ
set_option linter.unusedSectionVars false
variable [Inhabited LowT]
theorem nilEr_ne (w : World) : (binOp .neq 45 .nilIface .nilIface).run Tryz.prog w = .ok (.bool false) w := by kernel_rfl
set_option maxRecDepth 100000 in
theorem must28 (p : Option Addr) (w : World) : Calls Tryz.prog 28 #[.pointer p, .nilIface] w fun e w' => e = .returned (.pointer p) ∧ w' = w := by
  have q := nilEr_ne
  go_enter Tryz.func28, Tryz.ntmps28
  go_wp2
  go_ret
  exact ⟨rfl, rfl⟩
theorem parts_one (b : Nat) (p : ByteArray) {w : World} (h : HasR w b 9 #[.string p]) : Parts w (.slice (some ⟨b, 0, none⟩) 1 1) [p] :=
  ⟨_, _, rfl, .inr ⟨b, 0, rfl, h.lt, fun k hk => by
    obtain rfl : k = 0 := by simpa using hk
    exact h.cell 0⟩⟩
theorem mark_one (word : ByteArray) (w : World) (hp : word.size ≤ 20000) (hK : TabK w) :
    Calls Tryz.prog 30 #[.int .u8 100, .slice (some ⟨w.heap.size, 0, none⟩) 1 1] (w.alloc (.cells #[.string word] 9)) fun e w' => e = .returned (.string (markB 100 [word])) ∧ Below w.heap.size w w' :=
  have b1 : Below w.heap.size w (w.alloc (.cells #[.string word] 9)) := (Below.refl _ w).alloc (Nat.le_refl _) _
  (mark_any 100 _ [word] _ (parts_one w.heap.size word (HasR.new w 9 _)) (by simp) (by simp [hp]) (hK.below b1 hK.lt)).mono fun _ _ ⟨he, hb⟩ => ⟨he, b1.trans (hb.mono b1.size)⟩
set_option maxRecDepth 100000 in
set_option maxHeartbeats 2000000 in
theorem anew_any (db : Nat) (word : ByteArray) (hw : word.size ≤ 20000) (v0 a1 a2 a3 a4 a5 a6 : Value) (w : World) (hK : TabK w) (hd : HasR w db 34 #[v0, a1, a2, a3, a4, a5, a6]) :
    Calls Tryz.prog 7 #[.pointer (some ⟨db, 0, none⟩), .string word] w fun e w' => e = .returned (.tuple #[]) ∧ ∃ B mb : Nat, w.heap.size ≤ B ∧ B + 3 ≤ mb ∧ HasR w' db 34 #[v0, .pointer (some ⟨B + 2, 0, none⟩), .map (some mb), .int .i64 0, .string ⟨#[]⟩, .slice none 0 0, .int .i64 0] ∧ Src B w' (B + 2) (B + 1) B none none (.slice none 0 0) 0 0 (markB 100 [word]) kept0 tab0 [] ∧ w'.heap[mb]? = some (.map #[] 0) ∧ Stirred [db] w w' := by
  have MK := hide (mark_one word w hw hK)
  have NW := hide (fun wx => srcNew_ok (markB 100 [word]) wx (markB_size 100 [word]))
  have M28 := hide must28
  have hmm := @run_makeMap Tryz.prog
  have HD := hide hd
  clear hK hd hw
  go_enter Tryz.func7, Tryz.ntmps7
  go_upto_region 1 with (first
    | (go_at_call 30; (with_reducible refine MK.out.mono ?_); rintro _ w1 ⟨rfl, hb⟩; have B1 := hide hb; clear hb)
    | (go_at_call 29; (with_reducible refine (NW.out _).mono ?_); rintro _ w2 ⟨rfl, hs, hb⟩; have S2 := hide hs; have B12 := hide (B1.out.trans (hb.mono B1.out.size)); have X2 := hide (HD.out.below B12.out HD.out.lt); clear hb hs; have z1 : w2.cell? ⟨db, 1, none⟩ = some a1 := X2.out.cell 1; have f1 := X2.out.free 1)
    | (go_at_call 28; (with_reducible refine (M28.out _ _).mono ?_); rintro _ w3 ⟨rfl, rfl⟩))
  have X3 := hide (X2.out.set 1 (.pointer (some ⟨w1.heap.size + 2, 0, none⟩)))
  obtain ⟨W1, hW1⟩ : ∃ W1, w3.setCell ⟨db, 1, none⟩ (.pointer (some ⟨w1.heap.size + 2, 0, none⟩)) = W1 := ⟨_, rfl⟩
  rw [hW1] at X3 ⊢
  have HW1 := hide hW1
  clear hW1 z1 f1
  have Y3 := hide (X3.out.alloc (.map #[] 0))
  have z2 : (W1.alloc (.map #[] 0)).cell? ⟨db, 2, none⟩ = some a2 := Y3.out.cell 2
  have f2 := Y3.out.free 2
  go_upto_region 2 with fail
  have X4 := hide (Y3.out.set 2 (.map (some W1.heap.size)))
  obtain ⟨W2, hW2⟩ : ∃ W2, (W1.alloc (.map #[] 0)).setCell ⟨db, 2, none⟩ (.map (some W1.heap.size)) = W2 := ⟨_, rfl⟩
  rw [hW2] at X4 ⊢
  have HW2 := hide hW2
  clear hW2 z2 f2
  have z3 : W2.cell? ⟨db, 3, none⟩ = some a3 := X4.out.cell 3
  have z4 : W2.cell? ⟨db, 4, none⟩ = some a4 := X4.out.cell 4
  have z5 : W2.cell? ⟨db, 5, none⟩ = some a5 := X4.out.cell 5
  have z6 : W2.cell? ⟨db, 6, none⟩ = some a6 := X4.out.cell 6
  have f3 := X4.out.free 3
  have f4 := X4.out.free 4
  have f5 := X4.out.free 5
  have f6 := X4.out.free 6
  go_wp2
  have hdl := HD.out.lt
  have h1 := B1.out.size
  have X5 := (((X4.out.set 3 (.int .i64 0)).set 4 (.string ⟨#[]⟩)).set 5 (.slice none 0 0)).set 6 (.int .i64 0)
  have e3 : W1.heap.size = w3.heap.size := by rw [← HW1.out]; simp
  have hM : (W1.alloc (.map #[] 0)).heap[W1.heap.size]? = some (.map #[] 0) := World.alloc_heap_new W1 _
  have s1 : Stirred [db] w3 W1 := by rw [← HW1.out]; exact Stirred.setCell w3 ⟨db, 1, none⟩ _
  have s2 : Stirred [db] W1 W2 := by
    rw [← HW2.out]
    exact (Stirred.of_below ((Below.refl _ W1).alloc (Nat.le_refl _) _) [db]).andThen (Stirred.setCell _ ⟨db, 2, none⟩ _) (fun j hj => .inl hj)
  have s3 : ∀ (W : World) (k : Nat) (v : Value), Stirred [db] W (W.setCell ⟨db, k, none⟩ v) := fun W k v => Stirred.setCell W ⟨db, k, none⟩ v
  have s4 := ((((s1.andThen s2 (fun j hj => .inl hj)).andThen (s3 _ 3 (.int .i64 0)) (fun j hj => .inl hj)).andThen (s3 _ 4 (.string ⟨#[]⟩)) (fun j hj => .inl hj)).andThen (s3 _ 5 (.slice none 0 0)) (fun j hj => .inl hj)).andThen (s3 _ 6 (.int .i64 0)) (fun j hj => .inl hj)
  have hlS := S2.out.tab.row.lt
  have hMS : W1.heap.size < (W1.alloc (.map #[] 0)).heap.size := by simp
  have hm0 : ∀ (W : World) (k : Nat) (v : Value) (o : Obj), W.heap[W1.heap.size]? = some o → (W.setCell ⟨db, k, none⟩ v).heap[W1.heap.size]? = some o := fun W k v o ho => (Below.heap_setCell _ _ _ _ (fun e => by have e' : W1.heap.size = db := e; have := B12.out.size; omega)).trans ho
  have hm2 : W2.heap[W1.heap.size]? = some (.map #[] 0) := by
    rw [← HW2.out]
    exact hm0 _ _ _ _ hM
  have hS := S2.out.turned s4 (fun j hj => by
    unfold ownS at hj
    simp [Value.ownBlock] at hj
    simp
    omega)
  go_end0
  exact ⟨rfl, w1.heap.size, W1.heap.size, h1, by omega, by simpa using X5, hS, hm0 _ _ _ _ (hm0 _ _ _ _ (hm0 _ _ _ _ (hm0 _ _ _ _ hm2))), (Stirred.of_below B12.out [db]).andThen s4 (fun j hj => .inl hj)⟩
end Go.Proofs.YtdjpghgnjcmdnaaGreatDoor

/- A desk as it lies in memory: its own cells, the map of its orders, its source, its readers, what was kept. -/
namespace Go.Proofs.YtdjpghgnjcmdnaaGreatDoor
open Go.RowKit Go.Shelf Go.Sort Go.Maps
set_option linter.unusedSectionVars false
variable [Inhabited LowT]
variable [Inhabited Cl] [Inhabited Ev]
/-- How a reader's address reads. -/
def rdElem (v : Value) : Option (DataW Unit × List MemPlace) :=
  match v with
  | .pointer (some ⟨b, 0, none⟩) => some (.lit (.int .i64 (b : Int)), [])
  | .pointer none => some (.lit (.bool false), [])
  | _ => none
theorem rdElem_at {v : Value} {b : Nat} {ps : List MemPlace} (h : rdElem v = some (.lit (.int .i64 (b : Int)), ps)) : v = .pointer (some ⟨b, 0, none⟩) := by
  unfold rdElem at h
  split at h
  · rename_i b'
    simp only [Option.some.injEq, Prod.mk.injEq, DataW.lit.injEq, Lit.int.injEq, true_and, Int.natCast_inj] at h
    rw [h.1]
  · simp at h
  · cases h
theorem rdElem_no {v : Value} {ps : List MemPlace} (h : rdElem v = some (.lit (.bool false), ps)) : v = .pointer none := by
  unfold rdElem at h
  split at h
  · simp at h
  · rfl
  · cases h
/-- Where each reader lies: its block, its rows' map. -/
abbrev Rho := ByteArray → Option (Nat × Option Nat)
def rdD (p : Option (Nat × Option Nat)) : DataW Unit :=
  match p with
  | some q => .lit (.int .i64 (q.1 : Int))
  | none => .lit (.bool false)
def RdIs (D : DataW Unit) (ρ : Rho) : Prop := IsMap D ∧ ∀ x : ByteArray, D.atKey (.string x.data.toList) (.lit (.bool false)) = rdD (ρ x)
def setRho (ρ : Rho) (x : ByteArray) (p : Nat × Option Nat) : Rho := fun y => if y = x then some p else ρ y
theorem RdIs.none : RdIs (.map []) (fun _ => Option.none) := ⟨isMap_empty, fun _ => rfl⟩
theorem RdIs.set {D : DataW Unit} {ρ : Rho} (h : RdIs D ρ) (x : ByteArray) (b : Nat) (m : Option Nat) : RdIs (D.put (.string x.data.toList) (.lit (.int .i64 (b : Int)))) (setRho ρ x (b, m)) := by
  refine ⟨h.1.put _ _, fun y => ?_⟩
  rw [atKey_put h.1]
  unfold setRho
  by_cases e : y = x
  · rw [if_pos e, if_pos (by rw [e])]
    rfl
  · rw [if_neg e, if_neg (fun e2 => e (bytes_eq e2)), h.2]
/-- Its rows' map is another one: where it lies is told by its block alone. -/
theorem RdIs.same {D : DataW Unit} {ρ : Rho} (h : RdIs D ρ) {x : ByteArray} {b : Nat} {m : Option Nat} (hx : ρ x = some (b, m)) (m' : Option Nat) : RdIs D (setRho ρ x (b, m')) := by
  refine ⟨h.1, fun y => ?_⟩
  unfold setRho
  by_cases e : y = x
  · rw [if_pos e, h.2, e, hx]
    rfl
  · rw [if_neg e, h.2]
/-- What may be said of a reader of a source. -/
structure GoodR (h : Hst) (r : RdS) : Prop where
  q : r.q ≤ h.ok.length
  lost : r.lost ≤ r.q
  mark : markAt r.q r.m = headR (h.rs.take r.q)
  rows : ∀ t n s v, r.τ t n = some (s, v) → rightB ⟨1, s, t, n, v⟩ = true
structure Good (s : DeskS) : Prop where
  did : Did s.sec s.h
  sec : s.sec.size = 16
  len : s.h.ok.length ≤ 100
  rd : ∀ x r, s.rd x = some r → GoodR s.h r
  kept : ∀ r, s.kept = some r → GoodR s.h r ∧ r.m.size = 16 ∧ (r.q = 0 → r.m = noneB)
/-- What was kept, in the desk's own cells. -/
def KeptV (w : World) (k : Option RdS) (c3 c4 c5 c6 : Value) : Prop :=
  match k with
  | none => c3 = .int .i64 0 ∧ c4 = .string ⟨#[]⟩ ∧ c5 = .slice none 0 0 ∧ c6 = .int .i64 0
  | some r => c3 = .int .i64 (r.q : Int) ∧ c4 = .string r.m ∧ c6 = .int .i64 (r.lost : Int) ∧ ∃ ds, InOrd r.τ ds ∧ ds.length ≤ r.q ∧ RowC w lowK c5 ds ∧ ∀ g, c5.ownBlock = some g → lowK ≤ g ∧ ∃ cs, HasR w g 129 cs
/-- Whose a block is: the desk's own, its orders', its source's, its readers', what was kept; or a reader's. -/
abbrev Tag := Nat ⊕ ByteArray
structure DeskV (κ : Nat → Tag) (db : Nat) (s : DeskS) (w : World) (B ob sb fb vb : Nat) (mt mv : Option Nat) (v : Value) (rm : Nat) (ρ : Rho) (c3 c4 c5 c6 : Value) : Prop where
  good : Good s
  desk : HasR w db 34 #[.map (some ob), .pointer (some ⟨sb, 0, none⟩), .map (some rm), c3, c4, c5, c6]
  ord : w.ownsMap Tryz.prog 9 ordElem ob 16 (tableD db)
  src : Src B w sb fb vb mt mv v s.h.ok.length s.h.ok.length s.sec s.h.σ s.h.τ s.h.rs
  rds : ∃ D n, n ≤ s.c ∧ w.ownsMap Tryz.prog 9 rdElem rm n D ∧ RdIs D ρ
  each : ∀ x rb m, ρ x = some (rb, m) → ∃ r n, s.rd x = some r ∧ n ≤ r.q ∧ TabV w rb 133 #[.pointer (some ⟨vb, 0, none⟩), .int .i64 (r.q : Int), .string r.m, .int .i64 (r.lost : Int)] m n r.τ
  none : ∀ x, ρ x = none → s.rd x = none
  kept : KeptV w s.kept c3 c4 c5 c6
  lowB : lowK ≤ B
  lowD : lowK ≤ db
  lowO : lowK ≤ ob
  lowM : lowK ≤ rm
  lowR : ∀ x rb m, ρ x = some (rb, m) → lowK ≤ rb ∧ ∀ j, m = some j → lowK ≤ j
  kD : κ db = .inl 0
  kO : κ ob = .inl 1
  kS : ∀ j ∈ ownS sb fb vb mt mv v, κ j = .inl 2
  kM : κ rm = .inl 3
  kK : ∀ g, c5.ownBlock = some g → κ g = .inl 4
  kR : ∀ x rb m, ρ x = some (rb, m) → κ rb = .inr x ∧ ∀ j, m = some j → κ j = .inr x
def Desk (db : Nat) (s : DeskS) (w : World) : Prop := ∃ κ B ob sb fb vb mt mv v rm ρ c3 c4 c5 c6, DeskV κ db s w B ob sb fb vb mt mv v rm ρ c3 c4 c5 c6
theorem KeptV.turned {w w' : World} {k : Option RdS} {c3 c4 c5 c6 : Value} {L : List Nat} (h : KeptV w k c3 c4 c5 c6) (t : Stirred L w w') (hL : ∀ g, c5.ownBlock = some g → g ∉ L) : KeptV w' k c3 c4 c5 c6 := by
  unfold KeptV at h ⊢
  cases k with
  | none => exact h
  | some r =>
    obtain ⟨h1, h2, h3, ds, h4, h5, h6, h7⟩ := h
    refine ⟨h1, h2, h3, ds, h4, h5, h6.aside t hL, fun g hg => ?_⟩
    obtain ⟨h8, cs, h9⟩ := h7 g hg
    exact ⟨h8, cs, h9.turned t (hL g hg)⟩
section
variable {κ : Nat → Tag} {db : Nat} {s : DeskS} {w w' : World} {B ob sb fb vb : Nat} {mt mv : Option Nat} {v : Value} {rm : Nat} {ρ : Rho} {c3 c4 c5 c6 : Value}
/-- A block that is the desk's, or one of what belongs to it. -/
def Owned (db ob sb fb vb : Nat) (mt mv : Option Nat) (v : Value) (rm : Nat) (ρ : Rho) (c5 : Value) (j : Nat) : Prop :=
  j = db ∨ j = ob ∨ j ∈ ownS sb fb vb mt mv v ∨ j = rm ∨ c5.ownBlock = some j ∨ ∃ x rb m, ρ x = some (rb, m) ∧ (j = rb ∨ m = some j)
/-- Other blocks are turned. -/
theorem DeskV.turned (h : DeskV κ db s w B ob sb fb vb mt mv v rm ρ c3 c4 c5 c6) {L : List Nat} (t : Stirred L w w') (hL : ∀ j ∈ L, ¬ Owned db ob sb fb vb mt mv v rm ρ c5 j) : DeskV κ db s w' B ob sb fb vb mt mv v rm ρ c3 c4 c5 c6 := by
  have nd : ∀ j, Owned db ob sb fb vb mt mv v rm ρ c5 j → j ∉ L := fun j hj hm => hL j hm hj
  refine ⟨h.good, h.desk.turned t (nd _ (.inl rfl)), ownsMap_turned h.ord t (nd _ (.inr (.inl rfl))), h.src.turned t (fun j hj => nd j (.inr (.inr (.inl hj)))), ?_, ?_, h.none, h.kept.turned t (fun g hg => nd g (.inr (.inr (.inr (.inr (.inl hg)))))), h.lowB, h.lowD, h.lowO, h.lowM, h.lowR, h.kD, h.kO, h.kS, h.kM, h.kK, h.kR⟩
  · obtain ⟨D, n, h1, h2, h3⟩ := h.rds
    exact ⟨D, n, h1, ownsMap_turned h2 t (nd _ (.inr (.inr (.inr (.inl rfl))))), h3⟩
  · intro x rb m hx
    obtain ⟨r, n, h1, h2, h3⟩ := h.each x rb m hx
    exact ⟨r, n, h1, h2, h3.turned t (nd _ (.inr (.inr (.inr (.inr (.inr ⟨x, rb, m, hx, .inl rfl⟩)))))) (fun j hj => nd _ (.inr (.inr (.inr (.inr (.inr ⟨x, rb, m, hx, .inr hj⟩))))))⟩
theorem DeskV.old (h : DeskV κ db s w B ob sb fb vb mt mv v rm ρ c3 c4 c5 c6) {j : Nat} (hj : Owned db ob sb fb vb mt mv v rm ρ c5 j) : j < w.heap.size := by
  rcases hj with rfl | rfl | hj | rfl | hj | ⟨x, rb, m, hx, hj⟩
  · exact h.desk.lt
  · exact h.ord.lt
  · exact h.src.oldO j hj
  · obtain ⟨D, n, _, h2, _⟩ := h.rds
    exact h2.lt
  · have hk := h.kept
    unfold KeptV at hk
    cases hs : s.kept with
    | none => rw [hs] at hk; obtain ⟨_, _, e, _⟩ := hk; rw [e] at hj; cases hj
    | some r =>
      rw [hs] at hk
      obtain ⟨_, _, _, ds, _, _, _, h7⟩ := hk
      obtain ⟨_, cs, h9⟩ := h7 j hj
      exact h9.lt
  · obtain ⟨r, n, h1, h2, h3⟩ := h.each x rb m hx
    rcases hj with rfl | hj
    · exact h3.row.lt
    · obtain ⟨D, ho, _⟩ := h3.held j hj
      exact ho.lt
theorem DeskV.low (h : DeskV κ db s w B ob sb fb vb mt mv v rm ρ c3 c4 c5 c6) {j : Nat} (hj : Owned db ob sb fb vb mt mv v rm ρ c5 j) : lowK ≤ j := by
  rcases hj with rfl | rfl | hj | rfl | hj | ⟨x, rb, m, hx, hj⟩
  · exact h.lowD
  · exact h.lowO
  · exact Nat.le_trans h.lowB (h.src.lowO j hj)
  · exact h.lowM
  · have hk := h.kept
    unfold KeptV at hk
    cases hs : s.kept with
    | none => rw [hs] at hk; obtain ⟨_, _, e, _⟩ := hk; rw [e] at hj; cases hj
    | some r =>
      rw [hs] at hk
      obtain ⟨_, _, _, ds, _, _, _, h7⟩ := hk
      exact (h7 j hj).1
  · rcases hj with rfl | hj
    · exact (h.lowR x _ m hx).1
    · exact (h.lowR x rb m hx).2 j hj
theorem DeskV.still (h : DeskV κ db s w B ob sb fb vb mt mv v rm ρ c3 c4 c5 c6) (k : Below w.heap.size w w') : DeskV κ db s w' B ob sb fb vb mt mv v rm ρ c3 c4 c5 c6 :=
  h.turned (Stirred.of_below k []) (fun j hj => by cases hj)
/-- No block of a desk's is a quiet one. -/
theorem HasR.loud {b : Nat} {t : TypeId} {cs : Array Value} (h : HasR w b t cs) (ht : t ≠ 9 ∧ t ≠ 3 ∧ t ≠ 40 ∧ t ≠ 5 ∧ t ≠ 26) {o : Obj} (ho : w.heap[b]? = some o) : ¬ quietB o := by
  have e : o = .cells cs t (0, 0) := by
    have h1 : w.heap[b]? = some (.cells cs t (0, 0)) := h
    rw [h1] at ho
    cases ho
    rfl
  subst e
  rintro ((⟨l, h⟩ | ⟨d, h⟩) | ⟨cs', t', fz, h, h2⟩)
  · cases h
  · cases h
  · cases h
    obtain ⟨a, b, c, d, e⟩ := ht
    rcases h2 with h2 | h2 | h2 | h2 | h2 <;> contradiction
theorem ownsMap_loud {k : TypeId} {R : Value → Option (DataW Unit × List MemPlace)} {b n : Nat} {D : DataW Unit} (h : w.ownsMap Tryz.prog k R b n D) {o : Obj} (ho : w.heap[b]? = some o) : ¬ quietB o := by
  obtain ⟨es, clock, hb, _⟩ := h
  rw [hb] at ho
  cases ho
  rintro ((⟨l, h⟩ | ⟨d, h⟩) | ⟨cs', t', fz, h, h2⟩)
  · cases h
  · cases h
  · cases h
theorem Src.loud {nt nv : Nat} {sec : ByteArray} {σ : Kept} {τ : Tab} {rs : List Rec} (h : Src B w sb fb vb mt mv v nt nv sec σ τ rs) {j : Nat} (hj : j ∈ ownS sb fb vb mt mv v) {o : Obj} (ho : w.heap[j]? = some o) : ¬ quietB o := by
  unfold ownS at hj
  rcases List.mem_cons.1 hj with rfl | hj
  · exact h.tab.row.loud (by decide) ho
  rcases List.mem_cons.1 hj with rfl | hj
  · exact h.feed.row.loud (by decide) ho
  rcases List.mem_cons.1 hj with rfl | hj
  · exact h.keys.row.loud (by decide) ho
  rcases List.mem_append.1 hj with hj | hj
  · obtain ⟨D, h1, _⟩ := h.tab.held j (by simpa using hj)
    exact ownsMap_loud h1 ho
  rcases List.mem_append.1 hj with hj | hj
  · obtain ⟨D, h1, _⟩ := h.keys.held j (by simpa using hj)
    exact ownsMap_loud h1 ho
  · obtain ⟨cur, h1⟩ := h.feed.block (g := j) (by simpa using hj)
    exact h1.loud (by decide) ho
theorem DeskV.loud (h : DeskV κ db s w B ob sb fb vb mt mv v rm ρ c3 c4 c5 c6) {j : Nat} (hj : Owned db ob sb fb vb mt mv v rm ρ c5 j) {o : Obj} (ho : w.heap[j]? = some o) : ¬ quietB o := by
  rcases hj with rfl | rfl | hj | rfl | hj | ⟨x, rb, m, hx, hj⟩
  · exact h.desk.loud (by decide) ho
  · exact ownsMap_loud h.ord ho
  · exact h.src.loud hj ho
  · obtain ⟨D, n, _, h2, _⟩ := h.rds
    exact ownsMap_loud h2 ho
  · have hk := h.kept
    unfold KeptV at hk
    cases hs : s.kept with
    | none => rw [hs] at hk; obtain ⟨_, _, e, _⟩ := hk; rw [e] at hj; cases hj
    | some r =>
      rw [hs] at hk
      obtain ⟨_, _, _, ds, _, _, _, h7⟩ := hk
      obtain ⟨_, cs, h9⟩ := h7 j hj
      exact h9.loud (by decide) ho
  · obtain ⟨r, n, h1, h2, h3⟩ := h.each x rb m hx
    rcases hj with rfl | hj
    · exact h3.row.loud (by decide) ho
    · obtain ⟨D, h4, _⟩ := h3.held j hj
      exact ownsMap_loud h4 ho
/-- What turns nothing of a desk's leaves it. -/
theorem Noise.stirred (h : Noise w w') : ∃ L, Stirred L w w' ∧ ∀ j ∈ L, ∀ o, w.heap[j]? = some o → quietB o := by
  classical
  refine ⟨(List.range w.heap.size).filter (fun j => decide (w'.heap[j]? ≠ w.heap[j]?)), ⟨h.low.os, h.low.tape, h.low.output, h.size, fun k hk hn => ?_⟩, fun j hj o ho => ?_⟩
  · by_cases e : w'.heap[k]? = w.heap[k]?
    · exact e
    · exact absurd (List.mem_filter.2 ⟨List.mem_range.2 hk, by simpa using e⟩) hn
  · have h2 := (List.mem_filter.1 hj).2
    by_cases hq : quietB o
    · exact hq
    · exact absurd ((h.keep j o ho hq).trans ho.symm) (by simpa using h2)
theorem DeskV.noise (h : DeskV κ db s w B ob sb fb vb mt mv v rm ρ c3 c4 c5 c6) (k : Noise w w') : DeskV κ db s w' B ob sb fb vb mt mv v rm ρ c3 c4 c5 c6 := by
  obtain ⟨L, t, hL⟩ := k.stirred
  refine h.turned t (fun j hj ho => ?_)
  have hlt := h.old ho
  exact h.loud ho (Array.getElem?_eq_getElem hlt) (hL j hj _ (Array.getElem?_eq_getElem hlt))
theorem Desk.noise {db : Nat} {s : DeskS} {w w' : World} (h : Desk db s w) (k : Noise w w') : Desk db s w' := by
  obtain ⟨κ, B, ob, sb, fb, vb, mt, mv, v, rm, ρ, c3, c4, c5, c6, h⟩ := h
  exact ⟨κ, B, ob, sb, fb, vb, mt, mv, v, rm, ρ, c3, c4, c5, c6, h.noise k⟩
theorem Desk.still {db : Nat} {s : DeskS} {w w' : World} (h : Desk db s w) (k : Below w.heap.size w w') : Desk db s w' := by
  obtain ⟨κ, B, ob, sb, fb, vb, mt, mv, v, rm, ρ, c3, c4, c5, c6, h⟩ := h
  exact ⟨κ, B, ob, sb, fb, vb, mt, mv, v, rm, ρ, c3, c4, c5, c6, h.still k⟩
/-- What a desk turns are its own blocks: nothing quiet. -/
theorem DeskV.quiet (h : DeskV κ db s w B ob sb fb vb mt mv v rm ρ c3 c4 c5 c6) {L : List Nat} (t : Stirred L w w') (hL : ∀ j ∈ L, Owned db ob sb fb vb mt mv v rm ρ c5 j ∨ w.heap.size ≤ j) (h11 : lowK ≤ w.heap.size) : Quiet w w' := by
  refine ⟨t.below h11 (fun j hj => ?_), t.size, fun k o hk hq => ?_⟩
  · rcases hL j hj with h1 | h1
    · exact h.low h1
    · omega
  · refine (t.block k (block_old hk) (fun hm => ?_)).trans hk
    rcases hL k hm with h1 | h1
    · exact h.loud h1 hk hq
    · have := block_old hk
      omega
/-- Other names for what is not there yet. -/
theorem DeskV.relabel (h : DeskV κ db s w B ob sb fb vb mt mv v rm ρ c3 c4 c5 c6) {κ' : Nat → Tag} (hk : ∀ j, j < w.heap.size → κ' j = κ j) : DeskV κ' db s w B ob sb fb vb mt mv v rm ρ c3 c4 c5 c6 := by
  have nd : ∀ j, Owned db ob sb fb vb mt mv v rm ρ c5 j → κ' j = κ j := fun j hj => hk j (h.old hj)
  exact ⟨h.good, h.desk, h.ord, h.src, h.rds, h.each, h.none, h.kept, h.lowB, h.lowD, h.lowO, h.lowM, h.lowR, (nd _ (.inl rfl)).trans h.kD, (nd _ (.inr (.inl rfl))).trans h.kO, fun j hj => (nd j (.inr (.inr (.inl hj)))).trans (h.kS j hj), (nd _ (.inr (.inr (.inr (.inl rfl))))).trans h.kM, fun g hg => (nd g (.inr (.inr (.inr (.inr (.inl hg)))))).trans (h.kK g hg), fun x rb m hx => ⟨(nd _ (.inr (.inr (.inr (.inr (.inr ⟨x, rb, m, hx, .inl rfl⟩)))))).trans (h.kR x rb m hx).1, fun j hj => (nd _ (.inr (.inr (.inr (.inr (.inr ⟨x, rb, m, hx, .inr hj⟩)))))).trans ((h.kR x rb m hx).2 j hj)⟩⟩
end
end Go.Proofs.YtdjpghgnjcmdnaaGreatDoor

/- What may be said of a desk stays so, whatever is done to it. -/
namespace Go.Proofs.YtdjpghgnjcmdnaaGreatDoor
open Go.RowKit Go.Shelf Go.Sort Go.Maps
set_option linter.unusedSectionVars false
variable [Inhabited LowT]
variable [Inhabited Cl] [Inhabited Ev]
theorem size_nil {b : ByteArray} (h : b.data.toList = []) : b.size = 0 := by
  have : b.data.toList.length = b.size := by simp
  rw [h] at this
  exact this.symm
theorem brief_right {e : Ev} (h : rightB e = true) : Brief e := by
  obtain ⟨h1, h2⟩ := right_kinds h
  have a := nameB_len h1
  rcases h2 with ⟨_, b, c, d⟩ | ⟨_, b, c, d⟩ | ⟨_, b, c, d⟩
  · have b := nameB_len b
    have c := nameB_len c
    have d2 : e.v.data.toList.length ≤ 20 := by
      unfold valB at d
      simp at d
      exact d.1
    have d3 : e.v.data.toList.length = e.v.size := by simp
    exact ⟨by omega, by omega, by omega, by omega⟩
  · have b := nameB_len b
    have c := nameB_len c
    have d := size_nil d
    exact ⟨by omega, by omega, by omega, by omega⟩
  · have b := size_nil b
    have c := size_nil c
    have d := size_nil d
    exact ⟨by omega, by omega, by omega, by omega⟩
def RowsR (τ : Tab) : Prop := ∀ t n s v, τ t n = some (s, v) → rightB ⟨1, s, t, n, v⟩ = true
theorem rows0 : RowsR tab0 := fun _ _ _ _ h => by cases h
theorem RowsR.app {τ : Tab} (h : RowsR τ) (e : Ev) : RowsR (app e τ) := by
  intro t n s v hx
  cases hr : rightB e
  · rw [app_wrong hr] at hx
    exact h t n s v hx
  · rw [app_right hr] at hx
    rcases right_kind hr with hk | hk | hk
    · rw [act_put hk] at hx
      by_cases hh : hereB t n e = true
      · rw [if_pos hh] at hx
        cases hx
        obtain ⟨rfl, rfl⟩ := hereB_iff.1 hh
        have he : (⟨1, e.s, e.t, e.r, e.v⟩ : Ev) = e := by
          cases e
          simp only at hk
          subst hk
          rfl
        rw [he]
        exact hr
      · rw [if_neg hh] at hx
        exact h t n s v hx
    · rw [act_del hk] at hx
      by_cases hh : (hereB t n e && ownB (τ t n) e.s) = true
      · rw [if_pos hh] at hx
        cases hx
      · rw [if_neg hh] at hx
        exact h t n s v hx
    · rw [act_gone (by omega) (by omega)] at hx
      by_cases hh : ownB (τ t n) e.s = true
      · rw [if_pos hh] at hx
        cases hx
      · rw [if_neg hh] at hx
        exact h t n s v hx
theorem good0 (sec : ByteArray) (h : sec.size = 16) : Good (desk0 sec) := ⟨Did.none, h, by simp [desk0, hst0], (fun _ _ h => by cases h), (fun _ h => by cases h)⟩
theorem goodR0 (h : Hst) : GoodR h rd0 := ⟨Nat.zero_le _, Nat.le_refl _, by simp [rd0, markAt, headR], rows0⟩
theorem Did.both {sec : ByteArray} {s : Hst} (h : Did sec s) : s.rs.length = s.ok.length := h.recs.1
theorem Did.get {sec : ByteArray} {s : Hst} (h : Did sec s) {i : Nat} (hi : i < s.ok.length) : RecOf sec s.σ (s.ok.getD i ev0) (s.rs.getD i recZ) (lostB (s.ok.drop (i + 1)) (s.ok.getD i ev0).s) ∧ (s.rs.getD i recZ).q = i + 1 ∧ (s.rs.getD i recZ).p = headR (s.rs.take i) := h.recs.2 i hi
theorem GoodR.step {sec : ByteArray} {h : Hst} {r : RdS} (g : GoodR h r) (hd : Did sec h) (e : Ev) : GoodR (hstep sec h e) r := by
  cases hq : doesB h.σ h.τ e
  · rw [hstep_no hq]
    exact g
  · rw [hstep_yes hq]
    refine ⟨?_, g.lost, ?_, g.rows⟩
    · have := g.q
      simp only [List.length_append, List.length_singleton]
      omega
    · have h1 := g.q
      have h2 := hd.both
      rw [g.mark]
      show headR (h.rs.take r.q) = headR ((h.rs ++ [tellR sec h.σ h.rs e]).take r.q)
      rw [List.take_append_of_le_length (by omega)]
theorem GoodR.one {sec : ByteArray} {h : Hst} {r : RdS} (g : GoodR h r) (hd : Did sec h) (hq : r.q < h.ok.length) : GoodR h (readOne h r) := by
  have h1 := hd.both
  refine ⟨hq, ?_, ?_, ?_⟩
  · have := g.lost
    unfold readOne
    simp only
    split <;> omega
  · unfold readOne
    simp only
    unfold markAt
    rw [if_neg (by omega), headR_take (by omega)]
  · unfold readOne
    simp only
    split
    · exact g.rows
    · exact RowsR.app g.rows _
theorem readTo_q (h : Hst) (r : RdS) : ∀ k, (readTo h r k).q = r.q + k
  | 0 => rfl
  | k + 1 => by
    show (readTo h r k).q + 1 = _
    rw [readTo_q h r k]
    omega
theorem GoodR.more {sec : ByteArray} {h : Hst} {r : RdS} (g : GoodR h r) (hd : Did sec h) : ∀ k, r.q + k ≤ h.ok.length → GoodR h (readTo h r k)
  | 0, _ => g
  | k + 1, hk => (g.more hd k (by omega)).one hd (by rw [readTo_q]; omega)
theorem Good.set {s : DeskS} (g : Good s) {x : ByteArray} {r : RdS} (hr : GoodR s.h r) : Good (setR s x r) := by
  refine ⟨g.did, g.sec, g.len, fun y q hy => ?_, g.kept⟩
  unfold setR at hy
  simp only at hy
  by_cases e : y = x
  · rw [if_pos e] at hy
    cases hy
    exact hr
  · rw [if_neg e] at hy
    exact g.rd y q hy
/-- A reader is another one by now. -/
def rePut (s : DeskS) (x : ByteArray) (r : RdS) : DeskS := ⟨s.sec, s.h, fun y => if y = x then some r else s.rd y, s.kept, s.c⟩
theorem put_set (s : DeskS) (x : ByteArray) (a b : RdS) : rePut (setR s x a) x b = setR s x b := by
  unfold rePut setR
  simp only [DeskS.mk.injEq, true_and, and_true]
  funext y
  by_cases e : y = x
  · rw [if_pos e, if_pos e]
  · rw [if_neg e, if_neg e, if_neg e]
theorem Good.put {s : DeskS} (g : Good s) {x : ByteArray} {r : RdS} (hr : GoodR s.h r) : Good (rePut s x r) :=
  have h := g.set (x := x) hr
  ⟨h.did, h.sec, h.len, h.rd, h.kept⟩
theorem Good.get {s : DeskS} (g : Good s) (x : ByteArray) : GoodR s.h (getR s x) := by
  unfold getR
  cases hx : s.rd x with
  | none => exact goodR0 _
  | some r => exact g.rd x r hx
theorem Good.step {s : DeskS} (g : Good s) (e : Ev) (hl : s.h.rs.length < 100) : Good ⟨s.sec, hstep s.sec s.h e, s.rd, s.kept, s.c⟩ := by
  refine ⟨g.did.next e, g.sec, ?_, fun x r hx => (g.rd x r hx).step g.did e, fun r hr => ⟨(g.kept r hr).1.step g.did e, (g.kept r hr).2⟩⟩
  have h1 := g.did.both
  have h2 := g.len
  cases hq : doesB s.h.σ s.h.τ e
  · rw [hstep_no hq]
    exact h2
  · rw [hstep_yes hq]
    simp only [List.length_append, List.length_singleton]
    omega
theorem GoodR.size {h : Hst} {r : RdS} (g : GoodR h r) : (markAt r.q r.m).size = 16 := by
  rw [g.mark]
  exact headR_size _
/-- What is kept of a reader. -/
def keptOf (r : RdS) : RdS := ⟨r.q, markAt r.q r.m, r.lost, r.τ⟩
theorem GoodR.keep {h : Hst} {r : RdS} (g : GoodR h r) : GoodR h (keptOf r) ∧ (keptOf r).m.size = 16 ∧ ((keptOf r).q = 0 → (keptOf r).m = noneB) := by
  refine ⟨⟨g.q, g.lost, ?_, g.rows⟩, g.size, fun h0 => ?_⟩
  · show markAt r.q (markAt r.q r.m) = _
    show _ = headR (h.rs.take r.q)
    rw [← g.mark]
    unfold markAt
    split <;> rfl
  · show markAt r.q r.m = noneB
    have h1 : r.q = 0 := h0
    unfold markAt
    rw [if_pos h1]
theorem Good.keep {s : DeskS} (g : Good s) {r : RdS} (hr : GoodR s.h r) : Good ⟨s.sec, s.h, s.rd, some (keptOf r), s.c⟩ :=
  ⟨g.did, g.sec, g.len, g.rd, fun q hq => by cases hq; exact hr.keep⟩
theorem GoodR.right {h : Hst} {r : RdS} (g : GoodR h r) {ds : List Cl} (ho : InOrd r.τ ds) : ∀ c ∈ ds, rightB (evOfC c) = true := fun c hc => g.rows c.t c.r c.s c.v ((ho.2 c).1 hc)
/-- A source's rows were all put. -/
theorem Did.rows {sec : ByteArray} {s : Hst} (h : Did sec s) : RowsR s.τ := h.ind (P := fun s => RowsR s.τ) rows0 (fun _ e _ hp _ => RowsR.app hp e)
end Go.Proofs.YtdjpghgnjcmdnaaGreatDoor

/- What each kind of line leaves of a desk in memory. -/
namespace Go.Proofs.YtdjpghgnjcmdnaaGreatDoor
open Go.RowKit Go.Shelf Go.Sort Go.Maps
set_option linter.unusedSectionVars false
variable [Inhabited LowT]
variable [Inhabited Cl] [Inhabited Ev]
section
variable {κ : Nat → Tag} {db : Nat} {s : DeskS} {w w' : World} {B ob sb fb vb : Nat} {mt mv : Option Nat} {v : Value} {rm : Nat} {ρ : Rho} {c3 c4 c5 c6 : Value}
/-- Other names for what is nobody's. -/
theorem DeskV.named (h : DeskV κ db s w B ob sb fb vb mt mv v rm ρ c3 c4 c5 c6) {κ' : Nat → Tag} (hk : ∀ j, Owned db ob sb fb vb mt mv v rm ρ c5 j → κ' j = κ j) : DeskV κ' db s w B ob sb fb vb mt mv v rm ρ c3 c4 c5 c6 :=
  ⟨h.good, h.desk, h.ord, h.src, h.rds, h.each, h.none, h.kept, h.lowB, h.lowD, h.lowO, h.lowM, h.lowR, (hk _ (.inl rfl)).trans h.kD, (hk _ (.inr (.inl rfl))).trans h.kO, fun j hj => (hk j (.inr (.inr (.inl hj)))).trans (h.kS j hj), (hk _ (.inr (.inr (.inr (.inl rfl))))).trans h.kM, fun g hg => (hk g (.inr (.inr (.inr (.inr (.inl hg)))))).trans (h.kK g hg), fun x rb m hx => ⟨(hk _ (.inr (.inr (.inr (.inr (.inr ⟨x, rb, m, hx, .inl rfl⟩)))))).trans (h.kR x rb m hx).1, fun j hj => (hk _ (.inr (.inr (.inr (.inr (.inr ⟨x, rb, m, hx, .inr hj⟩)))))).trans ((h.kR x rb m hx).2 j hj)⟩⟩
theorem DeskV.tagOf (h : DeskV κ db s w B ob sb fb vb mt mv v rm ρ c3 c4 c5 c6) {j : Nat} : j ∈ ownS sb fb vb mt mv v → κ j = .inl 2 := h.kS j
/-- An event was done at the source. -/
theorem DeskV.did (h : DeskV κ db s w B ob sb fb vb mt mv v rm ρ c3 c4 c5 c6) {mt' mv' : Option Nat} {v' : Value} {hs : Hst} (hS : Src B w' sb fb vb mt' mv' v' hs.ok.length hs.ok.length s.sec hs.σ hs.τ hs.rs) (hN : ∀ j ∈ ownS sb fb vb mt' mv' v', j ∈ ownS sb fb vb mt mv v ∨ w.heap.size ≤ j) (t : Stirred (ownS sb fb vb mt mv v) w w') (hg : Good ⟨s.sec, hs, s.rd, s.kept, s.c⟩) : ∃ κ', DeskV κ' db ⟨s.sec, hs, s.rd, s.kept, s.c⟩ w' B ob sb fb vb mt' mv' v' rm ρ c3 c4 c5 c6 := by
  have ns : ∀ j, κ j ≠ .inl 2 → j ∉ ownS sb fb vb mt mv v := fun j hj hm => hj (h.kS j hm)
  have lt : ∀ j, Owned db ob sb fb vb mt mv v rm ρ c5 j → j < w.heap.size := fun j hj => h.old hj
  have keep : ∀ j, Owned db ob sb fb vb mt mv v rm ρ c5 j → (if j < w.heap.size then κ j else .inl 2) = κ j := fun j hj => if_pos (lt j hj)
  refine ⟨fun j => if j < w.heap.size then κ j else .inl 2, hg, h.desk.turned t (ns _ (by rw [h.kD]; simp)), ownsMap_turned h.ord t (ns _ (by rw [h.kO]; simp)), hS, ?_, ?_, h.none, h.kept.turned t (fun g hg => ns _ (by rw [h.kK g hg]; simp)), h.lowB, h.lowD, h.lowO, h.lowM, h.lowR, (keep _ (.inl rfl)).trans h.kD, (keep _ (.inr (.inl rfl))).trans h.kO, ?_, (keep _ (.inr (.inr (.inr (.inl rfl))))).trans h.kM, fun g hg => (keep g (.inr (.inr (.inr (.inr (.inl hg)))))).trans (h.kK g hg), fun x rb m hx => ⟨(keep _ (.inr (.inr (.inr (.inr (.inr ⟨x, rb, m, hx, .inl rfl⟩)))))).trans (h.kR x rb m hx).1, fun j hj => (keep _ (.inr (.inr (.inr (.inr (.inr ⟨x, rb, m, hx, .inr hj⟩)))))).trans ((h.kR x rb m hx).2 j hj)⟩⟩
  · obtain ⟨D, n, h1, h2, h3⟩ := h.rds
    exact ⟨D, n, h1, ownsMap_turned h2 t (ns _ (by rw [h.kM]; simp)), h3⟩
  · intro x rb m hx
    obtain ⟨r, n, h1, h2, h3⟩ := h.each x rb m hx
    exact ⟨r, n, h1, h2, h3.turned t (ns _ (by rw [(h.kR x rb m hx).1]; simp)) (fun j hj => ns _ (by rw [(h.kR x rb m hx).2 j hj]; simp))⟩
  · intro j hj
    rcases hN j hj with hj | hj
    · exact (keep j (.inr (.inr (.inl hj)))).trans (h.kS j hj)
    · exact if_neg (by omega)
/-- Of a reader's blocks none is another one's. -/
theorem DeskV.apartR (h : DeskV κ db s w B ob sb fb vb mt mv v rm ρ c3 c4 c5 c6) {x : ByteArray} {rb : Nat} {m : Option Nat} (hx : ρ x = some (rb, m)) {j : Nat} (hj : κ j ≠ .inr x) : j ∉ rb :: m.toList := by
  intro hm
  rcases List.mem_cons.1 hm with rfl | hm
  · exact hj (h.kR x _ m hx).1
  · exact hj ((h.kR x rb m hx).2 j (by simpa using hm))
/-- A reader read on. -/
theorem DeskV.read (h : DeskV κ db s w B ob sb fb vb mt mv v rm ρ c3 c4 c5 c6) {x : ByteArray} {rb : Nat} {m m' : Option Nat} (hx : ρ x = some (rb, m)) {r : RdS} {n : Nat} (hT : TabV w' rb 133 #[.pointer (some ⟨vb, 0, Option.none⟩), .int .i64 (r.q : Int), .string r.m, .int .i64 (r.lost : Int)] m' n r.τ) (hn : n ≤ r.q) (hm : m' = m ∨ (∀ j, m' = some j → w.heap.size ≤ j)) (t : Stirred (rb :: m.toList) w w') (h11 : lowK ≤ w.heap.size) (hr : GoodR s.h r) :
    ∃ κ', DeskV κ' db (rePut s x r) w' B ob sb fb vb mt mv v rm (setRho ρ x (rb, m')) c3 c4 c5 c6 := by
  have ns : ∀ j, κ j ≠ .inr x → j ∉ rb :: m.toList := fun j hj => h.apartR hx hj
  have lt : ∀ j, Owned db ob sb fb vb mt mv v rm ρ c5 j → j < w.heap.size := fun j hj => h.old hj
  have keep : ∀ j, Owned db ob sb fb vb mt mv v rm ρ c5 j → (if j < w.heap.size then κ j else .inr x) = κ j := fun j hj => if_pos (lt j hj)
  refine ⟨fun j => if j < w.heap.size then κ j else .inr x, h.good.put hr, h.desk.turned t (ns _ (by rw [h.kD]; simp)), ownsMap_turned h.ord t (ns _ (by rw [h.kO]; simp)), h.src.turned t (fun j hj => ns _ (by rw [h.kS j hj]; simp)), ?_, ?_, ?_, h.kept.turned t (fun g hg => ns _ (by rw [h.kK g hg]; simp)), h.lowB, h.lowD, h.lowO, h.lowM, ?_, (keep _ (.inl rfl)).trans h.kD, (keep _ (.inr (.inl rfl))).trans h.kO, fun j hj => (keep j (.inr (.inr (.inl hj)))).trans (h.kS j hj), (keep _ (.inr (.inr (.inr (.inl rfl))))).trans h.kM, fun g hg => (keep g (.inr (.inr (.inr (.inr (.inl hg)))))).trans (h.kK g hg), ?_⟩
  · obtain ⟨D, k, h1, h2, h3⟩ := h.rds
    exact ⟨D, k, h1, ownsMap_turned h2 t (ns _ (by rw [h.kM]; simp)), h3.same hx m'⟩
  · intro y qb k hy
    unfold setRho at hy
    by_cases e : y = x
    · rw [if_pos e] at hy
      cases hy
      exact ⟨r, n, by unfold rePut; simp [e], hn, hT⟩
    · rw [if_neg e] at hy
      obtain ⟨q, n2, h1, h2, h3⟩ := h.each y qb k hy
      exact ⟨q, n2, by unfold rePut; simp [e, h1], h2, h3.turned t (ns _ (by rw [(h.kR y qb k hy).1]; simp [e])) (fun j hj => ns _ (by rw [(h.kR y qb k hy).2 j hj]; simp [e]))⟩
  · intro y hy
    unfold setRho at hy
    by_cases e : y = x
    · rw [if_pos e] at hy
      cases hy
    · rw [if_neg e] at hy
      unfold rePut
      simp [e, h.none y hy]
  · intro y qb k hy
    unfold setRho at hy
    by_cases e : y = x
    · rw [if_pos e] at hy
      cases hy
      refine ⟨(h.lowR x rb m hx).1, fun j hj => ?_⟩
      rcases hm with hm | hm
      · exact (h.lowR x rb m hx).2 j (by rw [← hm]; exact hj)
      · have := hm j hj
        omega
    · rw [if_neg e] at hy
      exact h.lowR y qb k hy
  · intro y qb k hy
    unfold setRho at hy
    by_cases e : y = x
    · rw [if_pos e] at hy
      cases hy
      subst e
      refine ⟨(keep _ (.inr (.inr (.inr (.inr (.inr ⟨y, rb, m, hx, .inl rfl⟩)))))).trans (h.kR y rb m hx).1, fun j hj => ?_⟩
      rcases hm with hm | hm
      · rw [hm] at hj
        exact (keep _ (.inr (.inr (.inr (.inr (.inr ⟨y, rb, m, hx, .inr hj⟩)))))).trans ((h.kR y rb m hx).2 j hj)
      · have := hm j hj
        exact if_neg (by omega)
    · rw [if_neg e] at hy
      exact ⟨(keep _ (.inr (.inr (.inr (.inr (.inr ⟨y, qb, k, hy, .inl rfl⟩)))))).trans (h.kR y qb k hy).1, fun j hj => (keep _ (.inr (.inr (.inr (.inr (.inr ⟨y, qb, k, hy, .inr hj⟩)))))).trans ((h.kR y qb k hy).2 j hj)⟩
/-- It is named once more. -/
theorem DeskV.count (h : DeskV κ db s w B ob sb fb vb mt mv v rm ρ c3 c4 c5 c6) : DeskV κ db ⟨s.sec, s.h, s.rd, s.kept, s.c + 1⟩ w B ob sb fb vb mt mv v rm ρ c3 c4 c5 c6 := by
  refine ⟨⟨h.good.did, h.good.sec, h.good.len, h.good.rd, h.good.kept⟩, h.desk, h.ord, h.src, ?_, h.each, h.none, h.kept, h.lowB, h.lowD, h.lowO, h.lowM, h.lowR, h.kD, h.kO, h.kS, h.kM, h.kK, h.kR⟩
  obtain ⟨D, n, h1, h2, h3⟩ := h.rds
  exact ⟨D, n, Nat.le_succ_of_le h1, h2, h3⟩
/-- A reader gets a name. -/
theorem DeskV.names (h : DeskV κ db s w B ob sb fb vb mt mv v rm ρ c3 c4 c5 c6) {x : ByteArray} {rb : Nat} {m : Option Nat} {r : RdS} {n : Nat} (hT : TabV w rb 133 #[.pointer (some ⟨vb, 0, Option.none⟩), .int .i64 (r.q : Int), .string r.m, .int .i64 (r.lost : Int)] m n r.τ) (hn : n ≤ r.q) (hf : ∀ j, Owned db ob sb fb vb mt mv v rm ρ c5 j → j ∉ rb :: m.toList) (h11 : ∀ j ∈ rb :: m.toList, lowK ≤ j) {D : DataW Unit} {k : Nat} (hk : k ≤ s.c + 1) (ho : w'.ownsMap Tryz.prog 9 rdElem rm k D) (hD : RdIs D (setRho ρ x (rb, m))) (t : Stirred [rm] w w') (hr : GoodR s.h r) :
    ∃ κ', DeskV κ' db (setR s x r) w' B ob sb fb vb mt mv v rm (setRho ρ x (rb, m)) c3 c4 c5 c6 := by
  have nm : ∀ j, j ∈ [rm] → j = rm := fun j hj => by simpa using hj
  have ns : ∀ j, κ j ≠ .inl 3 → j ∉ [rm] := fun j hj hm => hj (by rw [nm j hm]; exact h.kM)
  have nT : ∀ j ∈ rb :: m.toList, j ∉ [rm] := fun j hj hm => by
    have e := nm j hm
    subst e
    exact hf j (.inr (.inr (.inr (.inl rfl)))) hj
  have keep : ∀ j, Owned db ob sb fb vb mt mv v rm ρ c5 j → (if j ∈ rb :: m.toList then .inr x else κ j) = κ j := fun j hj => if_neg (hf j hj)
  refine ⟨fun j => if j ∈ rb :: m.toList then .inr x else κ j, h.good.set hr, h.desk.turned t (ns _ (by rw [h.kD]; simp)), ownsMap_turned h.ord t (ns _ (by rw [h.kO]; simp)), h.src.turned t (fun j hj => ns _ (by rw [h.kS j hj]; simp)), ⟨D, k, hk, ho, hD⟩, ?_, ?_, h.kept.turned t (fun g hg => ns _ (by rw [h.kK g hg]; simp)), h.lowB, h.lowD, h.lowO, h.lowM, ?_, (keep _ (.inl rfl)).trans h.kD, (keep _ (.inr (.inl rfl))).trans h.kO, fun j hj => (keep j (.inr (.inr (.inl hj)))).trans (h.kS j hj), (keep _ (.inr (.inr (.inr (.inl rfl))))).trans h.kM, fun g hg => (keep g (.inr (.inr (.inr (.inr (.inl hg)))))).trans (h.kK g hg), ?_⟩
  · intro y qb k hy
    unfold setRho at hy
    by_cases e : y = x
    · rw [if_pos e] at hy
      cases hy
      exact ⟨r, n, by unfold setR; simp [e], hn, hT.turned t (nT _ (by simp)) (fun j hj => nT _ (by simp [hj]))⟩
    · rw [if_neg e] at hy
      obtain ⟨q, n2, h1, h2, h3⟩ := h.each y qb k hy
      exact ⟨q, n2, by unfold setR; simp [e, h1], h2, h3.turned t (ns _ (by rw [(h.kR y qb k hy).1]; simp)) (fun j hj => ns _ (by rw [(h.kR y qb k hy).2 j hj]; simp))⟩
  · intro y hy
    unfold setRho at hy
    by_cases e : y = x
    · rw [if_pos e] at hy
      cases hy
    · rw [if_neg e] at hy
      unfold setR
      simp [e, h.none y hy]
  · intro y qb k hy
    unfold setRho at hy
    by_cases e : y = x
    · rw [if_pos e] at hy
      cases hy
      exact ⟨h11 _ (by simp), fun j hj => h11 _ (by simp [hj])⟩
    · rw [if_neg e] at hy
      exact h.lowR y qb k hy
  · intro y qb k hy
    unfold setRho at hy
    by_cases e : y = x
    · rw [if_pos e] at hy
      cases hy
      subst e
      exact ⟨if_pos (by simp), fun j hj => if_pos (by simp [hj])⟩
    · rw [if_neg e] at hy
      exact ⟨(keep _ (.inr (.inr (.inr (.inr (.inr ⟨y, qb, k, hy, .inl rfl⟩)))))).trans (h.kR y qb k hy).1, fun j hj => (keep _ (.inr (.inr (.inr (.inr (.inr ⟨y, qb, k, hy, .inr hj⟩)))))).trans ((h.kR y qb k hy).2 j hj)⟩
/-- What is kept is another one. -/
theorem DeskV.keeps (h : DeskV κ db s w B ob sb fb vb mt mv v rm ρ c3 c4 c5 c6) {k : Option RdS} {e3 e4 e5 e6 : Value} (hd : HasR w' db 34 #[.map (some ob), .pointer (some ⟨sb, 0, Option.none⟩), .map (some rm), e3, e4, e5, e6]) (hk : KeptV w' k e3 e4 e5 e6) (hf : ∀ g, e5.ownBlock = some g → ¬ Owned db ob sb fb vb mt mv v rm ρ c5 g) (t : Stirred [db] w w') (hg : Good ⟨s.sec, s.h, s.rd, k, s.c⟩) :
    ∃ κ', DeskV κ' db ⟨s.sec, s.h, s.rd, k, s.c⟩ w' B ob sb fb vb mt mv v rm ρ e3 e4 e5 e6 := by
  have nm : ∀ j, j ∈ [db] → j = db := fun j hj => by simpa using hj
  have ns : ∀ j, κ j ≠ .inl 0 → j ∉ [db] := fun j hj hm => hj (by rw [nm j hm]; exact h.kD)
  have keep : ∀ j, Owned db ob sb fb vb mt mv v rm ρ c5 j → (if e5.ownBlock = some j then .inl 4 else κ j) = κ j := fun j hj => if_neg (fun e => hf j e hj)
  refine ⟨fun j => if e5.ownBlock = some j then .inl 4 else κ j, hg, hd, ownsMap_turned h.ord t (ns _ (by rw [h.kO]; simp)), h.src.turned t (fun j hj => ns _ (by rw [h.kS j hj]; simp)), ?_, ?_, h.none, hk, h.lowB, h.lowD, h.lowO, h.lowM, h.lowR, (keep _ (.inl rfl)).trans h.kD, (keep _ (.inr (.inl rfl))).trans h.kO, fun j hj => (keep j (.inr (.inr (.inl hj)))).trans (h.kS j hj), (keep _ (.inr (.inr (.inr (.inl rfl))))).trans h.kM, fun g hg => if_pos hg, fun x rb m hx => ⟨(keep _ (.inr (.inr (.inr (.inr (.inr ⟨x, rb, m, hx, .inl rfl⟩)))))).trans (h.kR x rb m hx).1, fun j hj => (keep _ (.inr (.inr (.inr (.inr (.inr ⟨x, rb, m, hx, .inr hj⟩)))))).trans ((h.kR x rb m hx).2 j hj)⟩⟩
  · obtain ⟨D, n, h1, h2, h3⟩ := h.rds
    exact ⟨D, n, h1, ownsMap_turned h2 t (ns _ (by rw [h.kM]; simp)), h3⟩
  · intro x rb m hx
    obtain ⟨r, n, h1, h2, h3⟩ := h.each x rb m hx
    exact ⟨r, n, h1, h2, h3.turned t (ns _ (by rw [(h.kR x rb m hx).1]; simp)) (fun j hj => ns _ (by rw [(h.kR x rb m hx).2 j hj]; simp))⟩
end
/-- A desk made anew. -/
theorem desk_anew {db ob B mb : Nat} {sec : ByteArray} {w : World} (h1 : sec.size = 16) (hd : HasR w db 34 #[.map (some ob), .pointer (some ⟨B + 2, 0, Option.none⟩), .map (some mb), .int .i64 0, .string ⟨#[]⟩, .slice none 0 0, .int .i64 0]) (ho : w.ownsMap Tryz.prog 9 ordElem ob 16 (tableD db)) (hs : Src B w (B + 2) (B + 1) B none none (.slice none 0 0) 0 0 sec kept0 tab0 []) (hm : w.heap[mb]? = some (.map #[] 0)) (lB : lowK ≤ B) (lD : lowK ≤ db) (lO : lowK ≤ ob) (hBm : B + 3 ≤ mb) (hob : ob < B) (hdb : db < B) (hne : ob ≠ db) : Desk db (desk0 sec) w := by
  refine ⟨fun j => if j = db then .inl 0 else if j = ob then .inl 1 else if j = mb then .inl 3 else .inl 2, B, ob, B + 2, B + 1, B, none, none, .slice none 0 0, mb, fun _ => none, .int .i64 0, .string ⟨#[]⟩, .slice none 0 0, .int .i64 0, good0 sec h1, hd, ho, hs, ?_, ?_, fun _ _ => rfl, ⟨rfl, rfl, rfl, rfl⟩, lB, lD, lO, by omega, ?_, if_pos rfl, ?_, ?_, ?_, ?_, ?_⟩
  · exact ⟨.map [], 0, Nat.le_refl _, ⟨#[], 0, hm, ⟨by simp, Go.MapKept.stamped_empty 0, by simp⟩, Nat.le_refl _, rfl⟩, RdIs.none⟩
  · intro x rb m hx
    cases hx
  · intro x rb m hx
    cases hx
  · simp [hne]
  · intro j hj
    have h2 : j = B + 2 ∨ j = B + 1 ∨ j = B := by
      unfold ownS at hj
      simpa [Value.ownBlock] using hj
    show (if j = db then (.inl 0 : Tag) else if j = ob then .inl 1 else if j = mb then .inl 3 else .inl 2) = .inl 2
    rw [if_neg (by omega), if_neg (by omega), if_neg (by omega)]
  · show (if mb = db then (.inl 0 : Tag) else if mb = ob then .inl 1 else if mb = mb then .inl 3 else .inl 2) = .inl 3
    rw [if_neg (by omega), if_neg (by omega), if_pos rfl]
  · intro g hg
    cases hg
  · intro x rb m hx
    cases hx
end Go.Proofs.YtdjpghgnjcmdnaaGreatDoor
