/- Texts of this proof, one behind the other. -/
import Derived.Deep.RegionHeld3
import Derived.Test.YtdjpghgnjcmdnaaGreatDoorPart33
/- A line obeyed: its form is right, and its last word is a number. -/
namespace Go.Proofs.YtdjpghgnjcmdnaaGreatDoor
open Go.RowKit Go.Shelf Go.Sort Go.Maps
attribute [local go_sem ↓] Go.wp_at_zero Go.wp_at_succ
set_option linter.unusedSectionVars false
variable [Inhabited LowT]
theorem run_store_fnH (P : Program) (w : World) (a : Addr) (m : Mode) (fn : Fn) (first captured : Array Value) : (store a (.func fn first captured) m).run P w = stored P w a (.func fn first captured) m := run_store P w a _ m rfl
theorem run_store_nilH (P : Program) (w : World) (a : Addr) (m : Mode) : (store a .nilFunc m).run P w = stored P w a .nilFunc m := run_store P w a _ m rfl
attribute [local go_sem] run_store_fnH run_store_nilH
set_option maxRecDepth 100000 in
set_option maxHeartbeats 2000000 in
theorem obey_num (db m f : Nat) (n z : Int) (R : Ending → World → Prop) (g off : Nat) (lw : List UInt8) (hlw : lw.length ≤ 30000) (hnum : numW lw = some z) (x : ByteArray) (k c : Nat) (w : World) (hk1 : 1 ≤ k) (hk2 : k ≤ 30001) (hfit : (n != -1) = false ∨ ((n != -1) = true ∧ (n != (k : Int)) = false)) (hP : Pow w)
    (he : ∀ args w, (callFunc f args).run Tryz.prog w = .ok (.enter f args) w)
    (hF : ∀ wx, Below w.heap.size w wx → Calls Tryz.prog f #[.pointer (some ⟨db, 0, none⟩), .agg #[.string x, .slice (some ⟨g, off, none⟩) k c, .int .i64 z]] wx R) (hRv : ∀ e w', R e w' → (∃ o, e = .returned (.string o)) ∨ ∃ y : Int, e = thrown y)
    (hg : g < w.heap.size) (hlast : w.cell? ⟨g, off + (k - 1), none⟩ = some (.string (textL lw)))
    (hd : w.cell? ⟨db, 0, none⟩ = some (.map (some m))) (hdl : db < w.heap.size)
    (LK : ∀ wx, Below w.heap.size w wx → (Instr.lookup 27 (.map (some m)) (.string x) true).run Tryz.prog wx = .ok (.tuple #[.agg #[.int .i64 n, .bool true, .func (.func f) #[.pointer (some ⟨db, 0, none⟩)] #[]], .bool true]) wx) :
    Calls Tryz.prog 37 #[.pointer (some ⟨db, 0, none⟩), .agg #[.string x, .slice (some ⟨g, off, none⟩) k c, .int .i64 0]] w R := by
  have TH := hide (fun wx (hb : Below w.heap.size w wx) => number_ok lw hlw z hnum wx (hP.below hb hP.lt))
  have HF := hide hF
  have HR := hide hRv
  have HLW := hide (fun wx (hb : Below w.heap.size w wx) => (World.cell?_of_block (hb.block g hg)).trans hlast)
  have k1 : (0 : Int) ≤ (k : Int) - 1 := by omega
  have k2 : (k : Int) - 1 < (k : Int) := by omega
  have k3 : wrap64 ((k : Int) - 1) = (k : Int) - 1 := by unfold wrap64; omega
  have k4 : ((k : Int) - 1).toNat = k - 1 := by omega
  have X0 := hide (HasR.new w 65 #[.string x, .slice (some ⟨g, off, none⟩) k c, .int .i64 0])
  have B0 := hide ((Below.refl w.heap.size w).alloc (Nat.le_refl _) (.cells #[.string x, .slice (some ⟨g, off, none⟩) k c, .int .i64 0] 65))
  obtain ⟨w0, hw0⟩ : ∃ w0, w.alloc (.cells #[.string x, .slice (some ⟨g, off, none⟩) k c, .int .i64 0] 65) = w0 := ⟨_, rfl⟩
  have hs0 : w0.heap.size = w.heap.size + 1 := by rw [← hw0]; simp
  rw [hw0] at X0 B0
  have KK : Hid (∀ wx, Below w0.heap.size w0 wx → wx.cell? ⟨db, 0, none⟩ = some (.map (some m)) ∧ wx.cell? ⟨w.heap.size, 0, none⟩ = some (.string x) ∧ (Instr.lookup 27 (.map (some m)) (.string x) true).run Tryz.prog wx = .ok (.tuple #[.agg #[.int .i64 n, .bool true, .func (.func f) #[.pointer (some ⟨db, 0, none⟩)] #[]], .bool true]) wx) := hide fun wx hb => by
    have hbb : Below w.heap.size w wx := B0.out.trans (hb.mono B0.out.size)
    exact ⟨(World.cell?_of_block (hbb.block db hdl)).trans hd, (X0.out.below hb X0.out.lt).cell 0, LK wx hbb⟩
  have hw0' := hide hw0
  have HDB := hide hdl
  clear hP hF hRv hlast hd LK hk1 hk2 hlw hnum hw0 hdl
  have N0 : HasR (w0.alloc (.cells #[.int .i64 0, .bool false, .nilFunc] 54)).drew (w.heap.size + 1) 54 #[.int .i64 0, .bool false, .nilFunc] := by rw [← hs0]; exact (HasR.new w0 54 _).drew
  have n0 : (w0.alloc (.cells #[.int .i64 0, .bool false, .nilFunc] 54)).drew.cell? ⟨w.heap.size + 1, 0, none⟩ = some (.int .i64 0) := N0.cell 0
  have n1 : (w0.alloc (.cells #[.int .i64 0, .bool false, .nilFunc] 54)).drew.cell? ⟨w.heap.size + 1, 1, none⟩ = some (.bool false) := N0.cell 1
  have n2 : (w0.alloc (.cells #[.int .i64 0, .bool false, .nilFunc] 54)).drew.cell? ⟨w.heap.size + 1, 2, none⟩ = some .nilFunc := N0.cell 2
  have p0 := N0.free 0
  have p1 := N0.free 1
  have p2 := N0.free 2
  clear N0
  go_enter Tryz.func37, Tryz.ntmps37
  go_upto_region 1 with fail
  rw [hw0'.out]
  go_region_held3 (fun wx => wx.cell? ⟨db, 0, none⟩ = some (.map (some m)) ∧ wx.cell? ⟨w.heap.size, 0, none⟩ = some (.string x) ∧ (Instr.lookup 27 (.map (some m)) (.string x) true).run Tryz.prog wx = .ok (.tuple #[.agg #[.int .i64 n, .bool true, .func (.func f) #[.pointer (some ⟨db, 0, none⟩)] #[]], .bool true]) wx) ((refine KK.out _ ?_; first | exact (Below.refl _ _).drew | exact ((Below.refl _ _).alloc (Nat.le_refl _) _).drew | exact ((((((Below.refl _ _).alloc (Nat.le_refl _) _).drew).setCell (p := ⟨_, 0, none⟩) (Nat.le_of_eq hs0) _).setCell (p := ⟨_, 1, none⟩) (Nat.le_of_eq hs0) _).setCell (p := ⟨_, 2, none⟩) (Nat.le_of_eq hs0) _) | exact (((((Below.refl _ _).drew).alloc (Nat.le_refl _) _).setCell (p := ⟨_, 0, none⟩) (Nat.le_refl _) _).setCell (p := ⟨_, 1, none⟩) (Nat.le_refl _) _).setCell (p := ⟨_, 2, none⟩) (Nat.le_refl _) _ | (trace_state; fail))) (fail)
  all_goals (
    have N9 : HasR (w0.alloc (.cells #[.int .i64 n, .bool true, .func (.func f) #[.pointer (some ⟨db, 0, none⟩)] #[]] 54)).drew (w.heap.size + 1) 54 #[.int .i64 n, .bool true, .func (.func f) #[.pointer (some ⟨db, 0, none⟩)] #[]] := by rw [← hs0]; exact (HasR.new w0 54 _).drew
    have X9 : HasR (w0.alloc (.cells #[.int .i64 n, .bool true, .func (.func f) #[.pointer (some ⟨db, 0, none⟩)] #[]] 54)).drew w.heap.size 65 #[.string x, .slice (some ⟨g, off, none⟩) k c, .int .i64 0] := (X0.out.alloc _).drew
    have hbz : Below w.heap.size w (w0.alloc (.cells #[.int .i64 n, .bool true, .func (.func f) #[.pointer (some ⟨db, 0, none⟩)] #[]] 54)).drew := (B0.out.alloc B0.out.size _).drew
    have hl9 := HLW.out _ hbz
    have T2 := hide (TH.out _ hbz)
    have q0 : (w0.alloc (.cells #[.int .i64 n, .bool true, .func (.func f) #[.pointer (some ⟨db, 0, none⟩)] #[]] 54)).drew.cell? ⟨w.heap.size + 1, 0, none⟩ = some (.int .i64 n) := N9.cell 0
    have q1 : (w0.alloc (.cells #[.int .i64 n, .bool true, .func (.func f) #[.pointer (some ⟨db, 0, none⟩)] #[]] 54)).drew.cell? ⟨w.heap.size + 1, 1, none⟩ = some (.bool true) := N9.cell 1
    have q2 : (w0.alloc (.cells #[.int .i64 n, .bool true, .func (.func f) #[.pointer (some ⟨db, 0, none⟩)] #[]] 54)).drew.cell? ⟨w.heap.size + 1, 2, none⟩ = some (.func (.func f) #[.pointer (some ⟨db, 0, none⟩)] #[]) := N9.cell 2
    have y0 : (w0.alloc (.cells #[.int .i64 n, .bool true, .func (.func f) #[.pointer (some ⟨db, 0, none⟩)] #[]] 54)).drew.cell? ⟨w.heap.size, 0, none⟩ = some (.string x) := X9.cell 0
    have y1 : (w0.alloc (.cells #[.int .i64 n, .bool true, .func (.func f) #[.pointer (some ⟨db, 0, none⟩)] #[]] 54)).drew.cell? ⟨w.heap.size, 1, none⟩ = some (.slice (some ⟨g, off, none⟩) k c) := X9.cell 1
    have y2 : (w0.alloc (.cells #[.int .i64 n, .bool true, .func (.func f) #[.pointer (some ⟨db, 0, none⟩)] #[]] 54)).drew.cell? ⟨w.heap.size, 2, none⟩ = some (.int .i64 0) := X9.cell 2
    have NN := hide N9
    have XX := hide X9
    clear N9 X9
    generalize (w0.alloc (.cells #[.int .i64 n, .bool true, .func (.func f) #[.pointer (some ⟨db, 0, none⟩)] #[]] 54)).drew = w9 at q0 q1 q2 y0 y1 y2 hl9 hbz T2 NN XX ⊢)
  all_goals (rcases hfit with hf | ⟨hf, hf2⟩)
  all_goals (go_wp2_with (first
    | (go_at_call 72; (with_reducible refine T2.out.mono ?_); rintro _ w8 ⟨rfl, hb9⟩; have N8 := NN.out.below hb9 NN.out.lt; have X8 := XX.out.below hb9 XX.out.lt; have u2 : w8.cell? ⟨w.heap.size + 1, 2, none⟩ = some (.func (.func f) #[.pointer (some ⟨db, 0, none⟩)] #[]) := N8.cell 2; have s0 : w8.cell? ⟨w.heap.size, 0, none⟩ = some (.string x) := X8.cell 0; have s1 : w8.cell? ⟨w.heap.size, 1, none⟩ = some (.slice (some ⟨g, off, none⟩) k c) := X8.cell 1; have s2 : w8.cell? ⟨w.heap.size, 2, none⟩ = some (.int .i64 0) := X8.cell 2; have s3 : w8.frozen? ⟨w.heap.size, 2, none⟩ = false := X8.free 2; have T3 := hide (HF.out (w8.setCell ⟨w.heap.size, 2, none⟩ (.int .i64 z)) ((hbz.trans (hb9.mono hbz.size)).setCell (p := ⟨w.heap.size, 2, none⟩) (Nat.le_refl _) _)); clear N8 X8 hb9)
    | (go_at_fn f; (with_reducible refine T3.out.mono ?_); intro e9 w7 hr9; rcases HR.out _ _ hr9 with ⟨o, rfl⟩ | ⟨y, rfl⟩)))
  all_goals (first | exact hr9 | exact ⟨rfl, hr9⟩ | (simp [results, Tryz.results37, go_sem]; exact hr9) | (go_ret; exact hr9))
end Go.Proofs.YtdjpghgnjcmdnaaGreatDoor

/- A desk in memory obeys, once each of its orders is carried out. -/
namespace Go.Proofs.YtdjpghgnjcmdnaaGreatDoor
open Go.RowKit Go.Shelf Go.Sort Go.Maps
set_option linter.unusedSectionVars false
variable [Inhabited LowT]
variable [Inhabited Cl] [Inhabited Ev]
/-- How an order ends: what it comes to is told, or thrown, and so lies the desk. -/
def OutD (db : Nat) (s : DeskS) (f : Nat) (x : ByteArray) (xs : List ByteArray) (z : Int) (w : World) (e : Ending) (w' : World) : Prop :=
  ∃ res, Cmd f s x xs z res ∧ ((∃ n : Nat, res = .inl n ∧ n ≤ 100 ∧ e = thrown (n : Int) ∧ Desk db s w') ∨ (∃ o t, res = .inr (o, t) ∧ e = .returned (.string (textL o)) ∧ o.length ≤ 1000000000 ∧ Desk db t w')) ∧ Quiet w w'
/-- An order is carried out. -/
def CmdOk (f : Nat) (ar : Option Nat) : Prop :=
  ∀ (db : Nat) (s : DeskS) (w : World) (x : ByteArray) (v : Value) (xs : List ByteArray) (z : Int), Desk db s w → s.c ≤ 30000 → Vars w → LineW w v xs → (((x :: xs).map fun y => y.size + 1).sum ≤ 30001) → (∀ n, ar = some n → xs.length = n) → small64 z →
    Calls Tryz.prog f #[.pointer (some ⟨db, 0, none⟩), .agg #[.string x, v, .int .i64 z]] w fun e w' => OutD db s f x xs z w e w'
/-- What obeying a line comes to. -/
def ObD (s : DeskS) (x : ByteArray) (xs : List ByteArray) (o : ByteArray) (s' : DeskS) : Prop :=
  ∃ res, ObeyR s x xs res ∧ ((∃ n : Nat, res = .inl n ∧ n ≤ 100 ∧ o = wrongB (n : Int) ∧ s' = s) ∨ (∃ l t, res = .inr (l, t) ∧ o = textL l ∧ s' = t ∧ l.length ≤ 1000000000))
theorem ObD.eq {s : DeskS} {x : ByteArray} {xs : List ByteArray} {o o' : ByteArray} {t t' : DeskS} (h : ObD s x xs o t) (k : ObD s x xs o' t') : o = o' ∧ t = t' := by
  obtain ⟨r, h1, h2⟩ := h
  obtain ⟨r', k1, k2⟩ := k
  have e := h1.eq k1
  subst e
  rcases h2 with ⟨n, rfl, _, rfl, rfl⟩ | ⟨l, u, rfl, rfl, rfl, _⟩
  · rcases k2 with ⟨m, hm, _, rfl, rfl⟩ | ⟨l, u, hm, _⟩
    · cases hm
      exact ⟨rfl, rfl⟩
    · cases hm
  · rcases k2 with ⟨m, hm, _⟩ | ⟨l', u', hm, rfl, rfl, _⟩
    · cases hm
    · cases hm
      exact ⟨rfl, rfl⟩
theorem wrong_fits (n : Nat) (h : n ≤ 100) : Fits (wrongB (n : Int)) := by
  have : ∀ k : Fin 101, (wrongB ((k.val : Nat) : Int)).size ≤ 1000000000 := by decide +kernel
  exact this ⟨n, by omega⟩
theorem ObD.fits {s : DeskS} {x : ByteArray} {xs : List ByteArray} {o : ByteArray} {t : DeskS} (h : ObD s x xs o t) : Fits o := by
  obtain ⟨r, h1, ⟨n, _, hn, rfl, _⟩ | ⟨l, u, _, rfl, _, hl⟩⟩ := h
  · exact wrong_fits n hn
  · exact hl
theorem thrown_some : ∃ Th : DeskS → ByteArray → List ByteArray → Option Nat, ∀ s x xs n, Th s x xs = some n ↔ ObeyR s x xs (.inl n) := by
  classical
  refine ⟨fun s x xs => if h : ∃ n, ObeyR s x xs (.inl n) then some (Classical.choose h) else none, fun s x xs n => ?_⟩
  by_cases h : ∃ n, ObeyR s x xs (.inl n)
  · simp only [dif_pos h]
    have hc := Classical.choose_spec h
    constructor
    · intro e
      cases e
      exact hc
    · intro k
      have := hc.eq k
      cases this
      rfl
  · simp only [dif_neg h]
    constructor
    · intro e
      cases e
    · intro k
      exact absurd ⟨n, k⟩ h
theorem told_cnt {x : ByteArray} {ps : List (List UInt8)} {s t : DeskS} {l : List UInt8} (h : (.inr (l, t) : Res) = toldR x ps s) : t.c = s.c := by
  unfold toldR at h
  cases h
  rfl
theorem Cmd.cnt {f : Nat} {s t : DeskS} {x : ByteArray} {xs : List ByteArray} {z : Int} {l : List UInt8} (h : Cmd f s x xs z (.inr (l, t))) : t.c ≤ s.c + 1 := by
  unfold Cmd at h
  rcases h with ⟨rfl, h⟩ | ⟨rfl, h⟩ | ⟨rfl, ds, h1, h⟩ | ⟨rfl, h⟩ | ⟨rfl, ds, h1, h⟩ | ⟨rfl, h⟩ | ⟨rfl, h⟩ | ⟨rfl, h⟩ | ⟨rfl, h⟩ | ⟨rfl, h⟩ | ⟨rfl, ds, h1, h⟩ | ⟨rfl, h⟩ | ⟨rfl, h⟩ | ⟨rfl, h⟩
  · rw [told_cnt h]; simp [desk0]
  · unfold happR at h
    simp only at h
    split at h
    · cases h
    split at h
    · cases h
    split at h
    · cases h
    split at h
    · cases h
    rw [told_cnt h]
    exact Nat.le_succ _
  · rw [told_cnt h]; omega
  · rw [told_cnt h]; exact Nat.le_refl _
  · rw [told_cnt h]; exact Nat.le_refl _
  · rw [told_cnt h]; exact Nat.le_refl _
  · rw [told_cnt h]; exact Nat.le_refl _
  · unfold loadR at h
    cases hk : s.kept with
    | none => rw [hk] at h; cases h
    | some k => rw [hk] at h; rw [told_cnt h]; exact Nat.le_refl _
  · rw [told_cnt h]; omega
  · unfold wireR at h
    split at h
    · cases h
    · rw [told_cnt h]; omega
  · rw [told_cnt h]; omega
  · unfold blockR at h
    split at h
    · cases h
    · rw [told_cnt h]; omega
  · rw [told_cnt h]; omega
  · cases h; omega
theorem ObD.cnt {s : DeskS} {x : ByteArray} {xs : List ByteArray} {o : ByteArray} {t : DeskS} (h : ObD s x xs o t) : t.c ≤ s.c + 1 := by
  obtain ⟨r, h1, ⟨n, rfl, hn, rfl, rfl⟩ | ⟨l, u, rfl, rfl, rfl, hl⟩⟩ := h
  · omega
  · unfold ObeyR at h1
    cases ho : orderB x with
    | none => rw [ho] at h1; cases h1
    | some q =>
      obtain ⟨n, q, f⟩ := q
      rw [ho] at h1
      simp only at h1
      split at h1
      · cases h1
      split at h1
      · split at h1
        · cases h1
        · exact h1.cnt
      · exact h1.cnt
/-- How a line ends. -/
def EndD (db : Nat) (s : DeskS) (x : ByteArray) (xs : List ByteArray) (w : World) (e : Ending) (w' : World) : Prop :=
  ∃ res, ObeyR s x xs res ∧ ((∃ n : Nat, res = .inl n ∧ n ≤ 100 ∧ e = thrown (n : Int) ∧ Desk db s w') ∨ (∃ o t, res = .inr (o, t) ∧ e = .returned (.string (textL o)) ∧ o.length ≤ 1000000000 ∧ Desk db t w')) ∧ Quiet w w'
theorem OutD.way {db : Nat} {s : DeskS} {f : Nat} {x : ByteArray} {xs : List ByteArray} {z : Int} {w w' : World} {e : Ending} (h : OutD db s f x xs z w e w') : (∃ o, e = .returned (.string o)) ∨ ∃ y : Int, e = thrown y := by
  obtain ⟨r, _, ⟨n, _, _, h, _⟩ | ⟨o, t, _, h, _⟩, _⟩ := h
  · exact .inr ⟨_, h⟩
  · exact .inl ⟨_, h⟩
theorem OutD.from {db : Nat} {s : DeskS} {f : Nat} {x : ByteArray} {xs : List ByteArray} {z : Int} {w0 w w' : World} {e : Ending} (h : OutD db s f x xs z w e w') (hb : Below w0.heap.size w0 w) (h11 : lowK ≤ w0.heap.size) : OutD db s f x xs z w0 e w' := by
  obtain ⟨r, h1, h2, h3⟩ := h
  exact ⟨r, h1, h2, (Quiet.of_below hb h11).trans h3⟩
theorem order_num : ∀ o ∈ ordersL, o.2.2.1 = true → 1 ≤ o.2.1 := by decide
theorem order_fun : ∀ o ∈ ordersL, o.2.2.2 ∈ [14, 15, 16, 17, 18, 19, 20, 21, 22, 23, 24, 25, 26, 27] := by decide
theorem orderB_in {x : ByteArray} {o : Int × Bool × Nat} (h : orderB x = some o) : ∃ y, (y, o) ∈ ordersL := by
  unfold orderB at h
  obtain ⟨p, hp, rfl⟩ := Option.map_eq_some_iff.1 h
  have := List.mem_of_find?_eq_some hp
  exact ⟨p.1, by simpa using this⟩
/-- What an order asks behind its word. -/
def arOf (n : Int) : Option Nat := if n = -1 then none else some n.toNat
theorem enters_cmd (f : Nat) (h : f ∈ [14, 15, 16, 17, 18, 19, 20, 21, 22, 23, 24, 25, 26, 27]) : ∀ args w, (callFunc f args).run Tryz.prog w = .ok (.enter f args) w := by
  simp only [List.mem_cons, List.not_mem_nil, or_false] at h
  rcases h with rfl | rfl | rfl | rfl | rfl | rfl | rfl | rfl | rfl | rfl | rfl | rfl | rfl | rfl
  · exact enters_of Tryz.func14 (by kernel_rfl) rfl
  · exact enters_of Tryz.func15 (by kernel_rfl) rfl
  · exact enters_of Tryz.func16 (by kernel_rfl) rfl
  · exact enters_of Tryz.func17 (by kernel_rfl) rfl
  · exact enters_of Tryz.func18 (by kernel_rfl) rfl
  · exact enters_of Tryz.func19 (by kernel_rfl) rfl
  · exact enters_of Tryz.func20 (by kernel_rfl) rfl
  · exact enters_of Tryz.func21 (by kernel_rfl) rfl
  · exact enters_of Tryz.func22 (by kernel_rfl) rfl
  · exact enters_of Tryz.func23 (by kernel_rfl) rfl
  · exact enters_of Tryz.func24 (by kernel_rfl) rfl
  · exact enters_of Tryz.func25 (by kernel_rfl) rfl
  · exact enters_of Tryz.func26 (by kernel_rfl) rfl
  · exact enters_of Tryz.func27 (by kernel_rfl) rfl
theorem size_words {x : ByteArray} {xs : List ByteArray} (h : ((x :: xs).map fun y => y.size + 1).sum ≤ 30001) : x.size ≤ 30000 ∧ ∀ y ∈ xs, y.size ≤ 30000 := by
  simp only [List.map_cons, List.sum_cons] at h
  refine ⟨by omega, fun y hy => ?_⟩
  have : y.size + 1 ≤ (xs.map fun y => y.size + 1).sum := by
    clear h
    induction xs with
    | nil => cases hy
    | cons a l ih =>
      simp only [List.map_cons, List.sum_cons]
      rcases List.mem_cons.1 hy with rfl | hy
      · omega
      · have := ih hy
        omega
  omega
theorem len_words {x : ByteArray} {xs : List ByteArray} (h : ((x :: xs).map fun y => y.size + 1).sum ≤ 30001) : xs.length ≤ 30000 := by
  simp only [List.map_cons, List.sum_cons] at h
  have : xs.length ≤ (xs.map fun y => y.size + 1).sum := by
    clear h
    induction xs with
    | nil => simp
    | cons a l ih =>
      simp only [List.map_cons, List.sum_cons, List.length_cons]
      omega
  omega
theorem desk_ends (hC : ∀ o ∈ ordersL, CmdOk o.2.2.2 (arOf o.2.1)) (db : Nat) (s : DeskS) (w : World) (x : ByteArray) (xs : List ByteArray) (v : Value) (hD : Desk db s w) (hc : s.c ≤ 30000) (hV : Vars w) (hP : LineW w v xs) (hsz : ((x :: xs).map fun y => y.size + 1).sum ≤ 30001) :
    Calls Tryz.prog 37 #[.pointer (some ⟨db, 0, none⟩), .agg #[.string x, v, .int .i64 0]] w fun e w' => EndD db s x xs w e w' := by
  obtain ⟨hx, hxs⟩ := size_words hsz
  have hxl := len_words hsz
  obtain ⟨hP1, p, cp, rfl, hcp⟩ := hP
  have hdesk : ∃ ob, w.cell? ⟨db, 0, none⟩ = some (.map (some ob)) ∧ db < w.heap.size ∧ w.ownsMap Tryz.prog 9 ordElem ob 16 (tableD db) := by
    obtain ⟨κ, B, ob, sb, fb, vb, mt, mv, v, rm, ρ, c3, c4, c5, c6, h⟩ := hD
    exact ⟨ob, h.desk.cell 0, h.desk.lt, h.ord⟩
  obtain ⟨ob, hcell, hdl, hord⟩ := hdesk
  have hLK : ∀ wx, Below w.heap.size w wx → wx.ownsMap Tryz.prog 9 ordElem ob 16 (tableD db) := fun wx hb => ownsMap_turned hord (Stirred.of_below hb []) (by simp)
  have h11 := hV.n
  have _hk11 := lowK_le
  cases ho : orderB x with
  | none =>
    refine (obey_none db ob x p xs.length cp w hV.e hcell hdl (fun wx hb => ?_)).mono ?_
    · obtain ⟨v, ok, hrun, hm⟩ := order_look (hLK wx hb) x (by omega)
      rw [ho] at hm
      rw [hrun, hm.1, hm.2]
    · rintro e w' ⟨rfl, hb⟩
      exact ⟨.inl 3, by unfold ObeyR; rw [ho], .inl ⟨3, rfl, by omega, rfl, hD.still hb⟩, Quiet.of_below hb h11⟩
  | some o =>
    obtain ⟨n, q, f⟩ := o
    obtain ⟨y, hin⟩ := orderB_in ho
    have hf := order_fun _ hin
    have hnum := order_num _ hin
    simp only at hf hnum
    have LK : ∀ wx, Below w.heap.size w wx → (Instr.lookup 27 (.map (some ob)) (.string x) true).run Tryz.prog wx = .ok (.tuple #[.agg #[.int .i64 n, .bool q, .func (.func f) #[.pointer (some ⟨db, 0, none⟩)] #[]], .bool true]) wx := fun wx hb => by
      obtain ⟨v, ok, hrun, hm⟩ := order_look (hLK wx hb) x (by omega)
      rw [ho] at hm
      rw [hrun, hm.1, hm.2]
    by_cases hbad : n ≠ -1 ∧ n ≠ (xs.length : Int)
    · refine (obey_form db ob f n q x p xs.length cp w ⟨by simpa using hbad.1, by simpa using hbad.2⟩ hV.e hcell hdl LK).mono ?_
      rintro e w' ⟨rfl, hb⟩
      exact ⟨.inl 3, by unfold ObeyR; rw [ho]; simp only; rw [if_pos hbad]; trivial, .inl ⟨3, rfl, by omega, rfl, hD.still hb⟩, Quiet.of_below hb h11⟩
    · have hfit : (n != -1) = false ∨ ((n != -1) = true ∧ (n != (xs.length : Int)) = false) := by
        by_cases h1 : n = -1
        · exact .inl (by simp [h1])
        · by_cases h2 : n = (xs.length : Int)
          · exact .inr ⟨by simp [h1], by simp [h2]⟩
          · exact absurd ⟨h1, h2⟩ hbad
      have har : ∀ k, arOf n = some k → xs.length = k := by
        intro k hk
        unfold arOf at hk
        by_cases h1 : n = -1
        · rw [if_pos h1] at hk; cases hk
        · rw [if_neg h1] at hk
          cases hk
          by_cases h2 : n = (xs.length : Int)
          · omega
          · exact absurd ⟨h1, h2⟩ hbad
      have hCM : ∀ z, small64 z → ∀ wx, Below w.heap.size w wx → Calls Tryz.prog f #[.pointer (some ⟨db, 0, none⟩), .agg #[.string x, .slice p xs.length cp, .int .i64 z]] wx fun e w' => OutD db s f x xs z w e w' := fun z hz wx hb =>
        (hC _ hin db s wx x (.slice p xs.length cp) xs z (hD.still hb) hc (hV.low (hb.mono h11) hb.size) ⟨hP1.below hb rfl, _, _, rfl, hcp⟩ hsz har hz).mono fun e w' h => h.from hb h11
      cases hq : q with
      | false =>
        subst hq
        refine (obey_go db ob f n (fun e w' => OutD db s f x xs 0 w e w') x p xs.length cp w hfit (enters_cmd f hf) (hCM 0 (by unfold small64; omega)) (fun e w' h => h.way) hcell hdl LK).mono ?_
        rintro e w' ⟨r, h1, h2, h3⟩
        exact ⟨r, by unfold ObeyR; rw [ho]; simp only; rw [if_neg hbad]; exact h1, h2, h3⟩
      | true =>
        subst hq
        have hl1 : 1 ≤ xs.length := by
          have h1 := hnum rfl
          by_cases h2 : n = (xs.length : Int)
          · omega
          · exact absurd ⟨by omega, h2⟩ hbad
        obtain ⟨ao, cap, hv, hPP⟩ := hP1
        cases hv
        rcases hPP with rfl | ⟨g, off, rfl, hg, hcs⟩
        · simp at hl1
        · have hlast := hcs (xs.length - 1) (by omega)
          rw [show xs.getD (xs.length - 1) ByteArray.empty = textL (at_ xs (xs.length - 1)).data.toList from (textL_of _).symm] at hlast
          have hlw : (at_ xs (xs.length - 1)).data.toList.length ≤ 30000 := by
            have h1 : (at_ xs (xs.length - 1)).data.toList.length = (at_ xs (xs.length - 1)).size := by simp
            have h2 : at_ xs (xs.length - 1) ∈ xs := by
              unfold at_
              rw [List.getD_eq_getElem?_getD, List.getElem?_eq_getElem (by omega)]
              exact List.getElem_mem _
            have := hxs _ h2
            omega
          cases hn : numW (at_ xs (xs.length - 1)).data.toList with
          | none =>
            refine (obey_bad db ob f n g off _ hlw hn x xs.length cp w hl1 (by omega) hfit hV.e hV.p hV.s hg hlast hcell hdl LK).mono ?_
            rintro e w' ⟨rfl, hb⟩
            exact ⟨.inl 3, by unfold ObeyR; rw [ho]; simp only; rw [if_neg hbad, if_pos trivial, hn]; trivial, .inl ⟨3, rfl, by omega, rfl, hD.still hb⟩, Quiet.of_below hb h11⟩
          | some z =>
            refine (obey_num db ob f n z (fun e w' => OutD db s f x xs z w e w') g off _ hlw hn x xs.length cp w hl1 (by omega) hfit hV.p (enters_cmd f hf) (hCM z (numW_some hn).2.2) (fun e w' h => h.way) hg hlast hcell hdl LK).mono ?_
            rintro e w' ⟨r, h1, h2, h3⟩
            exact ⟨r, by unfold ObeyR; rw [ho]; simp only; rw [if_neg hbad, if_pos trivial, hn]; exact h1, h2, h3⟩
/-- So a desk obeys. -/
theorem desk_obeys (hC : ∀ o ∈ ordersL, CmdOk o.2.2.2 (arOf o.2.1)) {Th : DeskS → ByteArray → List ByteArray → Option Nat} (hT : ∀ s x xs n, Th s x xs = some n ↔ ObeyR s x xs (.inl n)) (db : Nat) : Obeys (Desk db) ObD Th (fun s => s.c) db := by
  intro s w x xs v hD hc hV hP hsz
  refine (desk_ends hC db s w x xs v hD hc hV hP hsz).mono ?_
  rintro e w' ⟨r, h1, h2, h3⟩
  rcases h2 with ⟨n, rfl, hn, rfl, hd⟩ | ⟨o, t, rfl, rfl, hl, hd⟩
  · refine ⟨wrongB (n : Int), s, ⟨_, h1, .inl ⟨n, rfl, hn, rfl, rfl⟩⟩, fun h => ?_, fun m h => ?_, hd, h3⟩
    · rw [(hT s x xs n).2 h1] at h
      cases h
    · rw [(hT s x xs n).2 h1] at h
      cases h
      exact ⟨hn, rfl, rfl⟩
  · refine ⟨textL o, t, ⟨_, h1, .inr ⟨o, t, rfl, rfl, rfl, hl⟩⟩, fun _ => rfl, fun m h => ?_, hd, h3⟩
    have := ((hT s x xs m).1 h).eq h1
    cases this
/-- The law, but for the orders, the start, and the lines that it asks. -/
theorem pieces_told (hC : ∀ o ∈ ordersL, CmdOk o.2.2.2 (arOf o.2.1)) (s0 : DeskS) (hS : Starts Desk s0) (hc0 : s0.c = 0) (hfix : ∀ out s, RunsTo (fun s l o s' => AnsOf ObD s l (textL o) s') s0 (linesN askedL) out s → out = toldAll) (a b : ByteArray) (w : World) (hV : Vars w) :
    Calls Tryz.prog 3 #[.string a, .string b] w fun e w' => e = .returned (.bool true) ∧ Below lowK w w' := by
  obtain ⟨Th, hT⟩ := thrown_some
  exact pieces_desk (D := Desk) (Ob := ObD) (Th := Th) (cnt := fun s => s.c) (fun db s w w' h k => Desk.noise h k) s0 hS (desk_obeys hC hT) hc0 (fun s x xs o s' h => h.cnt) (fun s x xs o s' h => h.fits) (fun s x xs o s' o' s'' h k => h.eq k) hfix a b w hV
end Go.Proofs.YtdjpghgnjcmdnaaGreatDoor

/- A reader by its name: it begins where it is named. -/
namespace Go.Proofs.YtdjpghgnjcmdnaaGreatDoor
open Go.RowKit Go.Shelf Go.Sort Go.Maps
set_option linter.unusedSectionVars false
variable [Inhabited LowT]
variable [Inhabited Cl] [Inhabited Ev]
attribute [local go_sem ↓] Go.wp_at_zero Go.wp_at_succ
theorem zero80 (w : World) : (zeroValue 80).run Tryz.prog w = .ok (.pointer none) w := by kernel_rfl
theorem nilR_nil (w : World) : (binOp .eql 80 (.pointer none) (.pointer none)).run Tryz.prog w = .ok (.bool true) w := by kernel_rfl
set_option maxRecDepth 100000 in
theorem must54 (p : Option Addr) (w : World) : Calls Tryz.prog 54 #[.pointer p, .nilIface] w fun e w' => e = .returned (.pointer p) ∧ w' = w := by
  have q := nilEr_ne
  go_enter Tryz.func54, Tryz.ntmps54
  go_wp2
  go_ret
  exact ⟨rfl, rfl⟩
theorem keyW (x : ByteArray) (h : x.size ≤ 60000) : keyOf Tryz.prog 9 (.string x) = some (.string x.data.toList) := WideMaps.keyOf_string_mk Tryz.underlying9 (by unfold maxLen; omega)
def rdP (p : Option (Nat × Option Nat)) : Value :=
  match p with
  | some q => .pointer (some ⟨q.1, 0, none⟩)
  | none => .pointer none
/-- A look-up of a reader. -/
theorem rd_look {w : World} {rm n : Nat} {D : DataW Unit} {ρ : Rho} (h : w.ownsMap Tryz.prog 9 rdElem rm n D) (hD : RdIs D ρ) (x : ByteArray) (hx : x.size ≤ 60000) : (Instr.lookup 29 (.map (some rm)) (.string x) false).run Tryz.prog w = .ok (rdP (ρ x)) w := by
  obtain ⟨v, ps, hrun, hv⟩ := h.lookup law9 Tryz.underlying29 (zero80 w) (zd := .lit (.bool false)) (zp := []) rfl (keyW x hx)
  rw [hrun]
  rw [hD.2 x] at hv
  cases hρ : ρ x with
  | none =>
    rw [hρ] at hv
    rw [rdElem_no hv]
    rfl
  | some p =>
    rw [hρ] at hv
    rw [rdElem_at hv]
    rfl
theorem rd_put {w : World} {rm n : Nat} {D : DataW Unit} {ρ : Rho} (h : w.ownsMap Tryz.prog 9 rdElem rm n D) (hD : RdIs D ρ) (hn : n ≤ 30000) (x : ByteArray) (hx : x.size ≤ 60000) (b : Nat) (m : Option Nat) : ∃ w' D', (Instr.mapUpdate 29 (.map (some rm)) (.string x) (.pointer (some ⟨b, 0, none⟩))).run Tryz.prog w = .ok () w' ∧ w'.ownsMap Tryz.prog 9 rdElem rm (n + 1) D' ∧ RdIs D' (setRho ρ x (b, m)) ∧ Stirred [rm] w w' := by
  obtain ⟨w', h1, h2, h3⟩ := h.store law9 Tryz.underlying29 (by unfold maxLen; omega) (keyW x hx) (val := .pointer (some ⟨b, 0, none⟩)) (d := .lit (.int .i64 (b : Int))) (ps := []) rfl
  exact ⟨w', _, h1, h2, hD.set x b m, Stirred.of_turned h3⟩
section
variable {κ : Nat → Tag} {db : Nat} {s : DeskS} {w : World} {B ob sb fb vb : Nat} {mt mv : Option Nat} {v : Value} {rm : Nat} {ρ : Rho} {c3 c4 c5 c6 : Value}
/-- What comes of naming a reader. -/
def NamedD (db : Nat) (s : DeskS) (x : ByteArray) (w : World) (B ob sb fb vb : Nat) (mt mv : Option Nat) (v : Value) (rm : Nat) (c3 c4 c5 c6 : Value) (e : Ending) (w' : World) : Prop :=
  ∃ rb m κ' ρ', e = .returned (.pointer (some ⟨rb, 0, none⟩)) ∧ DeskV κ' db (setR s x (getR s x)) w' B ob sb fb vb mt mv v rm ρ' c3 c4 c5 c6 ∧ ρ' x = some (rb, m) ∧ Stirred [rm] w w'
set_option maxRecDepth 100000 in
set_option maxHeartbeats 2000000 in
theorem named_old (h : DeskV κ db s w B ob sb fb vb mt mv v rm ρ c3 c4 c5 c6) (x : ByteArray) (hx : x.size ≤ 60000) (h11 : lowK ≤ w.heap.size) {rb : Nat} {m : Option Nat} (hρ : ρ x = some (rb, m)) :
    Calls Tryz.prog 46 #[.pointer (some ⟨db, 0, none⟩), .string x] w fun e w' => NamedD db s x w B ob sb fb vb mt mv v rm c3 c4 c5 c6 e w' := by
  have L : (Instr.lookup 29 (.map (some rm)) (.string x) false).run Tryz.prog w = .ok (.pointer (some ⟨rb, 0, none⟩)) w := by
    obtain ⟨D, n, _, h1, h2⟩ := h.rds
    have := rd_look h1 h2 x hx
    rw [hρ] at this
    exact this
  have d2 : w.cell? ⟨db, 2, none⟩ = some (.map (some rm)) := h.desk.cell 2
  have hq := ptrR_nil rb
  have hR : NamedD db s x w B ob sb fb vb mt mv v rm c3 c4 c5 c6 (.returned (.pointer (some ⟨rb, 0, none⟩))) w := by
    obtain ⟨r, n, h1, h2, h3⟩ := h.each x rb m hρ
    have hg : getR s x = r := by unfold getR; rw [h1]; rfl
    obtain ⟨κ', h4⟩ := h.read hρ h3 h2 (.inl rfl) (Stirred.refl _ w) h11 (h.good.rd x r h1)
    exact ⟨rb, m, κ', _, rfl, by rw [hg]; exact h4.count, by unfold setRho; rw [if_pos rfl], Stirred.refl _ w⟩
  have HR := hide hR
  clear h hρ hR
  go_enter Tryz.func46, Tryz.ntmps46
  go_wp2
  go_ret
  exact HR.out
set_option maxRecDepth 100000 in
set_option maxHeartbeats 2000000 in
theorem named_new (h : DeskV κ db s w B ob sb fb vb mt mv v rm ρ c3 c4 c5 c6) (x : ByteArray) (hx : x.size ≤ 60000) (hc : s.c ≤ 30000) (h11 : lowK ≤ w.heap.size) (hρ : ρ x = none) :
    Calls Tryz.prog 46 #[.pointer (some ⟨db, 0, none⟩), .string x] w fun e w' => NamedD db s x w B ob sb fb vb mt mv v rm c3 c4 c5 c6 e w' := by
  have L : (Instr.lookup 29 (.map (some rm)) (.string x) false).run Tryz.prog w = .ok (.pointer none) w := by
    obtain ⟨D, n, _, h1, h2⟩ := h.rds
    have := rd_look h1 h2 x hx
    rw [hρ] at this
    exact this
  have d2 : w.cell? ⟨db, 2, none⟩ = some (.map (some rm)) := h.desk.cell 2
  have hq := nilR_nil
  have hdr := h.still ((Below.refl _ w).drew)
  have hal := hdr.still ((Below.refl _ w.drew).alloc (Nat.le_refl _) (.cells #[.pointer (some ⟨vb, 0, none⟩), .int .i64 0, .string ⟨#[]⟩, .int .i64 0, .map none] 133))
  have hT : TabV (w.drew.alloc (.cells #[.pointer (some ⟨vb, 0, none⟩), .int .i64 0, .string ⟨#[]⟩, .int .i64 0, .map none] 133)) w.heap.size 133 #[.pointer (some ⟨vb, 0, none⟩), .int .i64 ((rd0.q : Nat) : Int), .string rd0.m, .int .i64 ((rd0.lost : Nat) : Int)] none 0 rd0.τ := ⟨HasR.new w.drew 133 _, fun _ => rfl, fun m e => by cases e⟩
  have hST : ∃ w9 D k, (Instr.mapUpdate 29 (.map (some rm)) (.string x) (.pointer (some ⟨w.heap.size, 0, none⟩))).run Tryz.prog (w.drew.alloc (.cells #[.pointer (some ⟨vb, 0, none⟩), .int .i64 0, .string ⟨#[]⟩, .int .i64 0, .map none] 133)) = .ok () w9 ∧ k ≤ s.c + 1 ∧ w9.ownsMap Tryz.prog 9 rdElem rm k D ∧ RdIs D (setRho ρ x (w.heap.size, none)) ∧ Stirred [rm] (w.drew.alloc (.cells #[.pointer (some ⟨vb, 0, none⟩), .int .i64 0, .string ⟨#[]⟩, .int .i64 0, .map none] 133)) w9 := by
    obtain ⟨D, n, hn, h1, h2⟩ := hal.rds
    obtain ⟨w9, D', a, b, c, d⟩ := rd_put h1 h2 (by omega) x hx w.heap.size none
    exact ⟨w9, D', n + 1, a, by omega, b, c, d⟩
  obtain ⟨w9, D9, k9, hrun, hk9, hown9, hD9, ht9⟩ := hST
  have L9 : (Instr.lookup 29 (.map (some rm)) (.string x) false).run Tryz.prog w9 = .ok (.pointer (some ⟨w.heap.size, 0, none⟩)) w9 := by
    have := rd_look hown9 hD9 x hx
    rw [show setRho ρ x (w.heap.size, none) x = some (w.heap.size, none) by unfold setRho; rw [if_pos rfl]] at this
    exact this
  have hR : NamedD db s x w B ob sb fb vb mt mv v rm c3 c4 c5 c6 (.returned (.pointer (some ⟨w.heap.size, 0, none⟩))) w9 ∧ w9.cell? ⟨db, 2, none⟩ = some (.map (some rm)) ∧ w9.cell? ⟨db, 1, none⟩ = some (.pointer (some ⟨sb, 0, none⟩)) := by
    have hg : getR s x = rd0 := by unfold getR; rw [h.none x hρ]; rfl
    obtain ⟨κ', h4⟩ := hal.names hT (Nat.le_refl _) (fun j hj hm => by
      have e : j = w.heap.size := by simpa using hm
      have := hdr.old hj
      rw [show w.drew.heap.size = w.heap.size from rfl] at this
      omega) (fun j hj => by
      have e : j = w.heap.size := by simpa using hj
      omega) hk9 hown9 hD9 ht9 (goodR0 _) (x := x)
    have b1 : Below w.heap.size w (w.drew.alloc (.cells #[.pointer (some ⟨vb, 0, none⟩), .int .i64 0, .string ⟨#[]⟩, .int .i64 0, .map none] 133)) := (Below.refl _ w).drew.alloc (Nat.le_refl _) _
    refine ⟨⟨w.heap.size, none, κ', _, rfl, by rw [hg]; exact h4, by unfold setRho; rw [if_pos rfl], ?_⟩, h4.desk.cell 2, h4.desk.cell 1⟩
    exact (Stirred.of_below b1 [rm]).andThen ht9 (fun j hj => .inl hj)
  have SV := hide (fun (_ : Unit) => srcVault_any B w.drew sb fb vb mt mv v _ _ s.sec s.h.σ s.h.τ s.h.rs hdr.src)
  have NW := hide (fun (_ : Unit) => rdNew_ok vb w.drew)
  rw [show w.drew.heap.size = w.heap.size from rfl] at NW
  have MU := hide must54
  have e1 : w.drew.cell? ⟨db, 1, none⟩ = some (.pointer (some ⟨sb, 0, none⟩)) := hdr.desk.cell 1
  have e2 : w.drew.cell? ⟨db, 2, none⟩ = some (.map (some rm)) := hdr.desk.cell 2
  have g1 : (w.drew.alloc (.cells #[.pointer (some ⟨vb, 0, none⟩), .int .i64 0, .string ⟨#[]⟩, .int .i64 0, .map none] 133)).cell? ⟨db, 1, none⟩ = some (.pointer (some ⟨sb, 0, none⟩)) := hal.desk.cell 1
  have g2 : (w.drew.alloc (.cells #[.pointer (some ⟨vb, 0, none⟩), .int .i64 0, .string ⟨#[]⟩, .int .i64 0, .map none] 133)).cell? ⟨db, 2, none⟩ = some (.map (some rm)) := hal.desk.cell 2
  have HR := hide hR.1
  have n2 := hR.2.1
  have n1 := hR.2.2
  generalize w.drew.alloc (.cells #[.pointer (some ⟨vb, 0, none⟩), .int .i64 0, .string ⟨#[]⟩, .int .i64 0, .map none] 133) = wA at hrun NW g1 g2
  have K0 := hide (And.intro e1 e2)
  have K1 := hide (And.intro g1 g2)
  clear h hdr hal hT hown9 hD9 ht9 hR hρ
  go_enter Tryz.func46, Tryz.ntmps46
  go_upto_region 2 with fail
  go_region_held3 (fun wx => wx.cell? ⟨db, 1, none⟩ = some (.pointer (some ⟨sb, 0, none⟩)) ∧ wx.cell? ⟨db, 2, none⟩ = some (.map (some rm))) (first | (with_reducible exact K0.out) | (with_reducible exact K1.out) | go_keep)
    (first
    | (go_at_call 56; (with_reducible refine (SV.out ()).mono ?_); rintro y w2 ⟨rfl, rfl⟩)
    | (go_at_call 82; (with_reducible refine (NW.out ()).mono ?_); rintro y w2 ⟨rfl, rfl⟩)
    | (go_at_call 54; (with_reducible refine (MU.out _ _).mono ?_); rintro y w2 ⟨rfl, rfl⟩))
  all_goals
    go_wp2
    go_ret
    exact HR.out
end
/-- Whether it is there or begins. -/
theorem named_any {κ : Nat → Tag} {db : Nat} {s : DeskS} {w : World} {B ob sb fb vb : Nat} {mt mv : Option Nat} {v : Value} {rm : Nat} {ρ : Rho} {c3 c4 c5 c6 : Value} (h : DeskV κ db s w B ob sb fb vb mt mv v rm ρ c3 c4 c5 c6) (x : ByteArray) (hx : x.size ≤ 60000) (hc : s.c ≤ 30000) (h11 : lowK ≤ w.heap.size) :
    Calls Tryz.prog 46 #[.pointer (some ⟨db, 0, none⟩), .string x] w fun e w' => NamedD db s x w B ob sb fb vb mt mv v rm c3 c4 c5 c6 e w' := by
  cases hρ : ρ x with
  | none => exact named_new h x hx hc h11 hρ
  | some p => exact named_old h x hx h11 hρ
end Go.Proofs.YtdjpghgnjcmdnaaGreatDoor

/- What a reader saves, and what is loaded of it: the leaves. -/
namespace Go.Proofs.YtdjpghgnjcmdnaaGreatDoor
open Go.RowKit Go.Sort
attribute [local go_sem ↓] Go.wp_at_zero Go.wp_at_succ
set_option linter.unusedSectionVars false
variable [Inhabited Cl] [Inhabited Ev]
set_option maxRecDepth 100000 in
set_option maxHeartbeats 1000000 in
/-- Save. -/
theorem save_any (w : World) (rb vb read lost : Nat) (mark : ByteArray) (mt : Option Nat) (nt : Nat) (τ : Tab) (h : TabV w rb 133 #[.pointer (some ⟨vb, 0, none⟩), .int .i64 (read : Int), .string mark, .int .i64 (lost : Int)] mt nt τ) (hn : nt ≤ 1000) :
    Calls Tryz.prog 53 #[.pointer (some ⟨rb, 0, none⟩)] w fun x w' => ∃ u ds, x = .returned (.agg #[.int .i64 (read : Int), .string (markAt read mark), u, .int .i64 (lost : Int)]) ∧ InOrd τ ds ∧ ds.length ≤ nt ∧ RowC w' w.heap.size u ds ∧ Below w.heap.size w w' := by
  have bel : Below w.heap.size w (w.alloc (.cells #[.int .i64 0, .string ⟨#[]⟩, .slice none 0 0, .int .i64 0] 32)) := (Below.refl _ w).alloc (Nat.le_refl _) _
  have E0 := hide (HasR.new w 32 #[.int .i64 0, .string ⟨#[]⟩, .slice none 0 0, .int .i64 0])
  have BL := hide bel
  have HT := hide h
  have AT := hide (at_any _ rb vb read lost mark mt nt τ (h.below bel))
  clear h bel
  go_enter Tryz.func53, Tryz.ntmps53
  go_wp2_with (first
    | (go_at_call 50; (with_reducible refine AT.out.mono ?_); rintro y w1 ⟨rfl, hb1⟩
       have B1 := hide (BL.out.trans (hb1.mono BL.out.size))
       have E1 := hide (E0.out.below hb1 E0.out.lt)
       have C1 := hide (rdCells_any w1 rb vb read lost mark mt nt τ (HT.out.below B1.out) hn)
       clear hb1)
    | (go_at_call 51; (with_reducible refine C1.out.mono ?_); rintro y w2 ⟨u, ds, rfl, ho, hl, hr, hb2⟩
       obtain ⟨p, c, rfl⟩ := hr.len
       have B2 := hide (B1.out.trans (hb2.mono B1.out.size))
       have E2 := hide (E1.out.below hb2 E1.out.lt)
       have L2 := hide (lost_any w2 rb vb read lost mark mt nt τ (HT.out.below B2.out))
       have R2 := hide hr
       have hw1 := E1.out.lt
       have e0 : w2.cell? ⟨w.heap.size, 0, none⟩ = some (.int .i64 0) := E2.out.cell 0
       have e1 : w2.cell? ⟨w.heap.size, 1, none⟩ = some (.string ⟨#[]⟩) := E2.out.cell 1
       have e2 : w2.cell? ⟨w.heap.size, 2, none⟩ = some (.slice none 0 0) := E2.out.cell 2
       have e3 : w2.cell? ⟨w.heap.size, 3, none⟩ = some (.int .i64 0) := E2.out.cell 3
       have q0 : w2.frozen? ⟨w.heap.size, 0, none⟩ = false := E2.out.free 0
       have q1 : w2.frozen? ⟨w.heap.size, 1, none⟩ = false := E2.out.free 1
       have q2 : w2.frozen? ⟨w.heap.size, 2, none⟩ = false := E2.out.free 2
       have q3 : w2.frozen? ⟨w.heap.size, 3, none⟩ = false := E2.out.free 3
       clear hr hb2)
    | (go_at_call 52; (with_reducible refine L2.out.mono ?_); rintro y w3 ⟨rfl, hw3⟩; obtain rfl := hw3.symm))
  exact bodyPost_ret (v := .agg #[.int .i64 (read : Int), .string (markAt read mark), .slice p ds.length c, .int .i64 (lost : Int)]) (results_cell_row Tryz.results53 _ _ w.heap.size 32 #[.int .i64 (read : Int), .string (markAt read mark), .slice p ds.length c, .int .i64 (lost : Int)] (0, 0) _ rfl (HasR.four4 E2.out _ _ _ _) Tryz.underlying32 rfl (by kernel_rfl)) rfl ⟨_, ds, rfl, ho, hl, (R2.out.turned (stirF w2 w.heap.size _ _ _ _) (fun j hj => by simp at hj; omega)).mono (by omega), B2.out.trans ((stirF w2 w.heap.size _ _ _ _).below B2.out.size (fun j hj => by simp at hj; omega))⟩
set_option maxRecDepth 100000 in
set_option maxHeartbeats 1000000 in
theorem counts_any (w : World) (read lost : Nat) (mark : ByteArray) (p : Option Addr) (n c : Nat) (hl : lost ≤ read) (hm : mark.size = 16) :
    Calls Tryz.prog 86 #[.agg #[.int .i64 (read : Int), .string mark, .slice p n c, .int .i64 (lost : Int)]] w fun x w' => x = .returned (.bool true) ∧ Below w.heap.size w w' := by
  have bel : Below w.heap.size w (w.alloc (.cells #[.int .i64 (read : Int), .string mark, .slice p n c, .int .i64 (lost : Int)] 32)) := (Below.refl _ w).alloc (Nat.le_refl _) _
  have d1 : decide ((0 : Int) ≤ (read : Int)) = true := decide_eq_true (by omega)
  have d2 : decide ((0 : Int) ≤ (lost : Int)) = true := decide_eq_true (by omega)
  have d3 : decide ((lost : Int) ≤ (read : Int)) = true := decide_eq_true (by omega)
  have BL := hide bel
  clear bel
  go_enter Tryz.func86, Tryz.ntmps86
  go_wp2
  go_ret
  exact ⟨rfl, BL.out⟩
set_option maxRecDepth 100000 in
set_option maxHeartbeats 1000000 in
theorem begins_any (w : World) (read lost : Nat) (mark : ByteArray) (p : Option Addr) (n c : Nat) (h0 : read = 0 → mark = noneB ∧ n = 0) :
    Calls Tryz.prog 87 #[.agg #[.int .i64 (read : Int), .string mark, .slice p n c, .int .i64 (lost : Int)]] w fun x w' => x = .returned (.bool true) ∧ Below w.heap.size w w' := by
  have bel : Below w.heap.size w (w.alloc (.cells #[.int .i64 (read : Int), .string mark, .slice p n c, .int .i64 (lost : Int)] 32)) := (Below.refl _ w).alloc (Nat.le_refl _) _
  by_cases hr : read = 0
  · obtain ⟨rfl, rfl⟩ := h0 hr
    subst hr
    have BL := hide bel
    clear bel h0
    unfold noneB at *
    go_enter Tryz.func87, Tryz.ntmps87
    go_wp2
    go_ret
    exact ⟨rfl, BL.out⟩
  · have d1 : decide ((0 : Int) < (read : Int)) = true := decide_eq_true (by omega)
    have d2 : (0 : Int) < (read : Int) := by omega
    have BL := hide bel
    clear bel h0 hr
    go_enter Tryz.func87, Tryz.ntmps87
    go_wp2
    go_ret
    exact ⟨rfl, BL.out⟩
set_option maxRecDepth 100000 in
set_option maxHeartbeats 1000000 in
theorem putOf_any (w : World) (c : Cl) :
    Calls Tryz.prog 90 #[.agg #[.string c.t, .string c.r, .string c.s, .string c.v]] w fun x w' => x = .returned (.agg #[.int .i64 1, .string c.s, .string c.t, .string c.r, .string c.v]) ∧ Below w.heap.size w w' := by
  have bel : Below w.heap.size w (w.alloc (.cells #[.string c.t, .string c.r, .string c.s, .string c.v] 129)) := (Below.refl _ w).alloc (Nat.le_refl _) _
  have BL := hide (bel.alloc bel.size (.cells #[.int .i64 1, .string c.s, .string c.t, .string c.r, .string c.v] 69))
  have e0 := HasR.new (w.alloc (.cells #[.string c.t, .string c.r, .string c.s, .string c.v] 129)) 69 #[.int .i64 1, .string c.s, .string c.t, .string c.r, .string c.v]
  rw [World.size_alloc] at e0
  have E0 := hide e0
  clear e0
  clear bel
  go_enter Tryz.func90, Tryz.ntmps90
  go_wp2
  exact bodyPost_ret (v := .agg #[.int .i64 1, .string c.s, .string c.t, .string c.r, .string c.v]) (results_cell_row Tryz.results90 _ _ (w.heap.size + 1) 69 #[.int .i64 1, .string c.s, .string c.t, .string c.r, .string c.v] (0, 0) _ rfl E0.out Tryz.underlying69 rfl (by kernel_rfl)) rfl ⟨rfl, BL.out⟩
end Go.Proofs.YtdjpghgnjcmdnaaGreatDoor
