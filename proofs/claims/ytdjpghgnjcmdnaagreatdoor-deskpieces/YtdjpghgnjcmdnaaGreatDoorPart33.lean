/- Texts of this proof, one behind the other. -/
import Derived.Deep.RegionHeld3
import Derived.Test.YtdjpghgnjcmdnaaGreatDoorPart32
/- A line obeyed: its order is looked up, its form is held against it, and what it orders is done. -/
namespace Go.Proofs.YtdjpghgnjcmdnaaGreatDoor
open Go.RowKit Go.Shelf Go.Sort Go.Maps
attribute [local go_sem ↓] Go.wp_at_zero Go.wp_at_succ
set_option linter.unusedSectionVars false
variable [Inhabited LowT]
theorem run_store_fnD (P : Program) (w : World) (a : Addr) (m : Mode) (fn : Fn) (first captured : Array Value) : (store a (.func fn first captured) m).run P w = stored P w a (.func fn first captured) m := run_store P w a _ m rfl
theorem run_store_nilD (P : Program) (w : World) (a : Addr) (m : Mode) : (store a .nilFunc m).run P w = stored P w a .nilFunc m := run_store P w a _ m rfl
attribute [local go_sem] run_store_fnD run_store_nilD
set_option maxRecDepth 100000 in
set_option maxHeartbeats 2000000 in
theorem obey_none (db m : Nat) (x : ByteArray) (v0 : Option Addr) (k c : Nat) (w : World) (hE : TabE w)
    (hd : w.cell? ⟨db, 0, none⟩ = some (.map (some m))) (hdl : db < w.heap.size)
    (LK : ∀ wx, Below w.heap.size w wx → (Instr.lookup 27 (.map (some m)) (.string x) true).run Tryz.prog wx = .ok (.tuple #[.agg #[.int .i64 0, .bool false, .nilFunc], .bool false]) wx) :
    Calls Tryz.prog 37 #[.pointer (some ⟨db, 0, none⟩), .agg #[.string x, .slice v0 k c, .int .i64 0]] w fun e w' => e = thrown 3 ∧ Below w.heap.size w w' := by
  have TH := hide (fun wx (hb : Below w.heap.size w wx) => throw_any 3 wx (hE.below hb hE.lt))
  have X0 := hide (HasR.new w 65 #[.string x, .slice v0 k c, .int .i64 0])
  have B0 := hide ((Below.refl w.heap.size w).alloc (Nat.le_refl _) (.cells #[.string x, .slice v0 k c, .int .i64 0] 65))
  obtain ⟨w0, hw0⟩ : ∃ w0, w.alloc (.cells #[.string x, .slice v0 k c, .int .i64 0] 65) = w0 := ⟨_, rfl⟩
  have hs0 : w0.heap.size = w.heap.size + 1 := by rw [← hw0]; simp
  rw [hw0] at X0 B0
  have KK : Hid (∀ wx, Below w0.heap.size w0 wx → wx.cell? ⟨db, 0, none⟩ = some (.map (some m)) ∧ wx.cell? ⟨w.heap.size, 0, none⟩ = some (.string x) ∧ (Instr.lookup 27 (.map (some m)) (.string x) true).run Tryz.prog wx = .ok (.tuple #[.agg #[.int .i64 0, .bool false, .nilFunc], .bool false]) wx) := hide fun wx hb => by
    have hbb : Below w.heap.size w wx := B0.out.trans (hb.mono B0.out.size)
    exact ⟨(World.cell?_of_block (hbb.block db hdl)).trans hd, (X0.out.below hb X0.out.lt).cell 0, LK wx hbb⟩
  have hw0' := hide hw0
  have HDB := hide hdl
  clear hE hd LK hw0 hdl
  have N0 : HasR (w0.alloc (.cells #[.int .i64 0, .bool false, .nilFunc] 54)).drew (w.heap.size + 1) 54 #[.int .i64 0, .bool false, .nilFunc] := by rw [← hs0]; exact (HasR.new w0 54 _).drew
  have n0 : (w0.alloc (.cells #[.int .i64 0, .bool false, .nilFunc] 54)).drew.cell? ⟨w.heap.size + 1, 0, none⟩ = some (.int .i64 0) := N0.cell 0
  have n1 : (w0.alloc (.cells #[.int .i64 0, .bool false, .nilFunc] 54)).drew.cell? ⟨w.heap.size + 1, 1, none⟩ = some (.bool false) := N0.cell 1
  have n2 : (w0.alloc (.cells #[.int .i64 0, .bool false, .nilFunc] 54)).drew.cell? ⟨w.heap.size + 1, 2, none⟩ = some .nilFunc := N0.cell 2
  have p0 := N0.free 0
  have p1 := N0.free 1
  have p2 := N0.free 2
  clear N0
  go_enter Tryz.func37, Tryz.ntmps37
  go_upto_region 1 with fail
  rw [hw0'.out]
  go_region_held3 (fun wx => wx.cell? ⟨db, 0, none⟩ = some (.map (some m)) ∧ wx.cell? ⟨w.heap.size, 0, none⟩ = some (.string x) ∧ (Instr.lookup 27 (.map (some m)) (.string x) true).run Tryz.prog wx = .ok (.tuple #[.agg #[.int .i64 0, .bool false, .nilFunc], .bool false]) wx) ((refine KK.out _ ?_; first | exact (Below.refl _ _).drew | exact ((Below.refl _ _).alloc (Nat.le_refl _) _).drew | exact ((((((Below.refl _ _).alloc (Nat.le_refl _) _).drew).setCell (p := ⟨_, 0, none⟩) (Nat.le_of_eq hs0) _).setCell (p := ⟨_, 1, none⟩) (Nat.le_of_eq hs0) _).setCell (p := ⟨_, 2, none⟩) (Nat.le_of_eq hs0) _) | exact (((((Below.refl _ _).drew).alloc (Nat.le_refl _) _).setCell (p := ⟨_, 0, none⟩) (Nat.le_refl _) _).setCell (p := ⟨_, 1, none⟩) (Nat.le_refl _) _).setCell (p := ⟨_, 2, none⟩) (Nat.le_refl _) _ | (trace_state; fail))) (fail)
  all_goals (
    have hbz : Below w.heap.size w (w0.alloc (.cells #[.int .i64 0, .bool false, .nilFunc] 54)).drew := (B0.out.alloc B0.out.size _).drew
    have T2 := hide (TH.out _ hbz)
    go_wp2_with (go_at_call 49; (with_reducible refine T2.out.mono ?_); rintro _ w9 ⟨rfl, hb9⟩)
    exact ⟨rfl, rfl, hbz.trans (hb9.mono hbz.size)⟩)
end Go.Proofs.YtdjpghgnjcmdnaaGreatDoor

/- A line obeyed: its form is right, and no number is asked of it. -/
namespace Go.Proofs.YtdjpghgnjcmdnaaGreatDoor
open Go.RowKit Go.Shelf Go.Sort Go.Maps
attribute [local go_sem ↓] Go.wp_at_zero Go.wp_at_succ
set_option linter.unusedSectionVars false
variable [Inhabited LowT]
theorem run_store_fnE (P : Program) (w : World) (a : Addr) (m : Mode) (fn : Fn) (first captured : Array Value) : (store a (.func fn first captured) m).run P w = stored P w a (.func fn first captured) m := run_store P w a _ m rfl
theorem run_store_nilE (P : Program) (w : World) (a : Addr) (m : Mode) : (store a .nilFunc m).run P w = stored P w a .nilFunc m := run_store P w a _ m rfl
attribute [local go_sem] run_store_fnE run_store_nilE
set_option maxRecDepth 100000 in
set_option maxHeartbeats 2000000 in
theorem obey_go (db m f : Nat) (n : Int) (R : Ending → World → Prop) (x : ByteArray) (v0 : Option Addr) (k c : Nat) (w : World) (hfit : (n != -1) = false ∨ ((n != -1) = true ∧ (n != (k : Int)) = false)) (he : ∀ args w, (callFunc f args).run Tryz.prog w = .ok (.enter f args) w)
    (hF : ∀ wx, Below w.heap.size w wx → Calls Tryz.prog f #[.pointer (some ⟨db, 0, none⟩), .agg #[.string x, .slice v0 k c, .int .i64 0]] wx R) (hRv : ∀ e w', R e w' → (∃ o, e = .returned (.string o)) ∨ ∃ z : Int, e = thrown z)
    (hd : w.cell? ⟨db, 0, none⟩ = some (.map (some m))) (hdl : db < w.heap.size)
    (LK : ∀ wx, Below w.heap.size w wx → (Instr.lookup 27 (.map (some m)) (.string x) true).run Tryz.prog wx = .ok (.tuple #[.agg #[.int .i64 n, .bool false, .func (.func f) #[.pointer (some ⟨db, 0, none⟩)] #[]], .bool true]) wx) :
    Calls Tryz.prog 37 #[.pointer (some ⟨db, 0, none⟩), .agg #[.string x, .slice v0 k c, .int .i64 0]] w R := by
  have HF := hide hF
  have HR := hide hRv
  have X0 := hide (HasR.new w 65 #[.string x, .slice v0 k c, .int .i64 0])
  have B0 := hide ((Below.refl w.heap.size w).alloc (Nat.le_refl _) (.cells #[.string x, .slice v0 k c, .int .i64 0] 65))
  obtain ⟨w0, hw0⟩ : ∃ w0, w.alloc (.cells #[.string x, .slice v0 k c, .int .i64 0] 65) = w0 := ⟨_, rfl⟩
  have hs0 : w0.heap.size = w.heap.size + 1 := by rw [← hw0]; simp
  rw [hw0] at X0 B0
  have KK : Hid (∀ wx, Below w0.heap.size w0 wx → wx.cell? ⟨db, 0, none⟩ = some (.map (some m)) ∧ wx.cell? ⟨w.heap.size, 0, none⟩ = some (.string x) ∧ (Instr.lookup 27 (.map (some m)) (.string x) true).run Tryz.prog wx = .ok (.tuple #[.agg #[.int .i64 n, .bool false, .func (.func f) #[.pointer (some ⟨db, 0, none⟩)] #[]], .bool true]) wx) := hide fun wx hb => by
    have hbb : Below w.heap.size w wx := B0.out.trans (hb.mono B0.out.size)
    exact ⟨(World.cell?_of_block (hbb.block db hdl)).trans hd, (X0.out.below hb X0.out.lt).cell 0, LK wx hbb⟩
  have hw0' := hide hw0
  have HDB := hide hdl
  clear hF hRv hd LK hw0 hdl
  have N0 : HasR (w0.alloc (.cells #[.int .i64 0, .bool false, .nilFunc] 54)).drew (w.heap.size + 1) 54 #[.int .i64 0, .bool false, .nilFunc] := by rw [← hs0]; exact (HasR.new w0 54 _).drew
  have n0 : (w0.alloc (.cells #[.int .i64 0, .bool false, .nilFunc] 54)).drew.cell? ⟨w.heap.size + 1, 0, none⟩ = some (.int .i64 0) := N0.cell 0
  have n1 : (w0.alloc (.cells #[.int .i64 0, .bool false, .nilFunc] 54)).drew.cell? ⟨w.heap.size + 1, 1, none⟩ = some (.bool false) := N0.cell 1
  have n2 : (w0.alloc (.cells #[.int .i64 0, .bool false, .nilFunc] 54)).drew.cell? ⟨w.heap.size + 1, 2, none⟩ = some .nilFunc := N0.cell 2
  have p0 := N0.free 0
  have p1 := N0.free 1
  have p2 := N0.free 2
  clear N0
  go_enter Tryz.func37, Tryz.ntmps37
  go_upto_region 1 with fail
  rw [hw0'.out]
  go_region_held3 (fun wx => wx.cell? ⟨db, 0, none⟩ = some (.map (some m)) ∧ wx.cell? ⟨w.heap.size, 0, none⟩ = some (.string x) ∧ (Instr.lookup 27 (.map (some m)) (.string x) true).run Tryz.prog wx = .ok (.tuple #[.agg #[.int .i64 n, .bool false, .func (.func f) #[.pointer (some ⟨db, 0, none⟩)] #[]], .bool true]) wx) ((refine KK.out _ ?_; first | exact (Below.refl _ _).drew | exact ((Below.refl _ _).alloc (Nat.le_refl _) _).drew | exact ((((((Below.refl _ _).alloc (Nat.le_refl _) _).drew).setCell (p := ⟨_, 0, none⟩) (Nat.le_of_eq hs0) _).setCell (p := ⟨_, 1, none⟩) (Nat.le_of_eq hs0) _).setCell (p := ⟨_, 2, none⟩) (Nat.le_of_eq hs0) _) | exact (((((Below.refl _ _).drew).alloc (Nat.le_refl _) _).setCell (p := ⟨_, 0, none⟩) (Nat.le_refl _) _).setCell (p := ⟨_, 1, none⟩) (Nat.le_refl _) _).setCell (p := ⟨_, 2, none⟩) (Nat.le_refl _) _ | (trace_state; fail))) (fail)
  all_goals (
    have N9 : HasR (w0.alloc (.cells #[.int .i64 n, .bool false, .func (.func f) #[.pointer (some ⟨db, 0, none⟩)] #[]] 54)).drew (w.heap.size + 1) 54 #[.int .i64 n, .bool false, .func (.func f) #[.pointer (some ⟨db, 0, none⟩)] #[]] := by rw [← hs0]; exact (HasR.new w0 54 _).drew
    have X9 : HasR (w0.alloc (.cells #[.int .i64 n, .bool false, .func (.func f) #[.pointer (some ⟨db, 0, none⟩)] #[]] 54)).drew w.heap.size 65 #[.string x, .slice v0 k c, .int .i64 0] := (X0.out.alloc _).drew
    have hbz : Below w.heap.size w (w0.alloc (.cells #[.int .i64 n, .bool false, .func (.func f) #[.pointer (some ⟨db, 0, none⟩)] #[]] 54)).drew := (B0.out.alloc B0.out.size _).drew
    have T2 := hide (HF.out _ hbz)
    have q0 : (w0.alloc (.cells #[.int .i64 n, .bool false, .func (.func f) #[.pointer (some ⟨db, 0, none⟩)] #[]] 54)).drew.cell? ⟨w.heap.size + 1, 0, none⟩ = some (.int .i64 n) := N9.cell 0
    have q1 : (w0.alloc (.cells #[.int .i64 n, .bool false, .func (.func f) #[.pointer (some ⟨db, 0, none⟩)] #[]] 54)).drew.cell? ⟨w.heap.size + 1, 1, none⟩ = some (.bool false) := N9.cell 1
    have q2 : (w0.alloc (.cells #[.int .i64 n, .bool false, .func (.func f) #[.pointer (some ⟨db, 0, none⟩)] #[]] 54)).drew.cell? ⟨w.heap.size + 1, 2, none⟩ = some (.func (.func f) #[.pointer (some ⟨db, 0, none⟩)] #[]) := N9.cell 2
    have y0 : (w0.alloc (.cells #[.int .i64 n, .bool false, .func (.func f) #[.pointer (some ⟨db, 0, none⟩)] #[]] 54)).drew.cell? ⟨w.heap.size, 0, none⟩ = some (.string x) := X9.cell 0
    have y1 : (w0.alloc (.cells #[.int .i64 n, .bool false, .func (.func f) #[.pointer (some ⟨db, 0, none⟩)] #[]] 54)).drew.cell? ⟨w.heap.size, 1, none⟩ = some (.slice v0 k c) := X9.cell 1
    have y2 : (w0.alloc (.cells #[.int .i64 n, .bool false, .func (.func f) #[.pointer (some ⟨db, 0, none⟩)] #[]] 54)).drew.cell? ⟨w.heap.size, 2, none⟩ = some (.int .i64 0) := X9.cell 2
    clear N9 X9
    generalize (w0.alloc (.cells #[.int .i64 n, .bool false, .func (.func f) #[.pointer (some ⟨db, 0, none⟩)] #[]] 54)).drew = w9 at q0 q1 q2 y0 y1 y2 hbz T2 ⊢)
  all_goals (rcases hfit with hf | ⟨hf, hf2⟩)
  all_goals (go_wp2_with (go_at_fn f; (with_reducible refine T2.out.mono ?_); intro e9 w8 hr9; rcases HR.out _ _ hr9 with ⟨o, rfl⟩ | ⟨z, rfl⟩))
  all_goals (first | exact hr9 | exact ⟨rfl, hr9⟩ | (simp [results, Tryz.results37, go_sem]; exact hr9) | (go_ret; exact hr9))
end Go.Proofs.YtdjpghgnjcmdnaaGreatDoor

/- A line obeyed: its form is wrong. -/
namespace Go.Proofs.YtdjpghgnjcmdnaaGreatDoor
open Go.RowKit Go.Shelf Go.Sort Go.Maps
attribute [local go_sem ↓] Go.wp_at_zero Go.wp_at_succ
set_option linter.unusedSectionVars false
variable [Inhabited LowT]
theorem run_store_fnF (P : Program) (w : World) (a : Addr) (m : Mode) (fn : Fn) (first captured : Array Value) : (store a (.func fn first captured) m).run P w = stored P w a (.func fn first captured) m := run_store P w a _ m rfl
theorem run_store_nilF (P : Program) (w : World) (a : Addr) (m : Mode) : (store a .nilFunc m).run P w = stored P w a .nilFunc m := run_store P w a _ m rfl
attribute [local go_sem] run_store_fnF run_store_nilF
set_option maxRecDepth 100000 in
set_option maxHeartbeats 2000000 in
theorem obey_form (db m f : Nat) (n : Int) (q : Bool) (x : ByteArray) (v0 : Option Addr) (k c : Nat) (w : World) (hfit : (n != -1) = true ∧ (n != (k : Int)) = true) (hE : TabE w)
    (hd : w.cell? ⟨db, 0, none⟩ = some (.map (some m))) (hdl : db < w.heap.size)
    (LK : ∀ wx, Below w.heap.size w wx → (Instr.lookup 27 (.map (some m)) (.string x) true).run Tryz.prog wx = .ok (.tuple #[.agg #[.int .i64 n, .bool q, .func (.func f) #[.pointer (some ⟨db, 0, none⟩)] #[]], .bool true]) wx) :
    Calls Tryz.prog 37 #[.pointer (some ⟨db, 0, none⟩), .agg #[.string x, .slice v0 k c, .int .i64 0]] w fun e w' => e = thrown 3 ∧ Below w.heap.size w w' := by
  have TH := hide (fun wx (hb : Below w.heap.size w wx) => throw_any 3 wx (hE.below hb hE.lt))
  obtain ⟨hf, hf2⟩ := hfit
  have X0 := hide (HasR.new w 65 #[.string x, .slice v0 k c, .int .i64 0])
  have B0 := hide ((Below.refl w.heap.size w).alloc (Nat.le_refl _) (.cells #[.string x, .slice v0 k c, .int .i64 0] 65))
  obtain ⟨w0, hw0⟩ : ∃ w0, w.alloc (.cells #[.string x, .slice v0 k c, .int .i64 0] 65) = w0 := ⟨_, rfl⟩
  have hs0 : w0.heap.size = w.heap.size + 1 := by rw [← hw0]; simp
  rw [hw0] at X0 B0
  have KK : Hid (∀ wx, Below w0.heap.size w0 wx → wx.cell? ⟨db, 0, none⟩ = some (.map (some m)) ∧ wx.cell? ⟨w.heap.size, 0, none⟩ = some (.string x) ∧ (Instr.lookup 27 (.map (some m)) (.string x) true).run Tryz.prog wx = .ok (.tuple #[.agg #[.int .i64 n, .bool q, .func (.func f) #[.pointer (some ⟨db, 0, none⟩)] #[]], .bool true]) wx) := hide fun wx hb => by
    have hbb : Below w.heap.size w wx := B0.out.trans (hb.mono B0.out.size)
    exact ⟨(World.cell?_of_block (hbb.block db hdl)).trans hd, (X0.out.below hb X0.out.lt).cell 0, LK wx hbb⟩
  have hw0' := hide hw0
  have HDB := hide hdl
  clear hE hd LK hw0 hdl
  have N0 : HasR (w0.alloc (.cells #[.int .i64 0, .bool false, .nilFunc] 54)).drew (w.heap.size + 1) 54 #[.int .i64 0, .bool false, .nilFunc] := by rw [← hs0]; exact (HasR.new w0 54 _).drew
  have n0 : (w0.alloc (.cells #[.int .i64 0, .bool false, .nilFunc] 54)).drew.cell? ⟨w.heap.size + 1, 0, none⟩ = some (.int .i64 0) := N0.cell 0
  have n1 : (w0.alloc (.cells #[.int .i64 0, .bool false, .nilFunc] 54)).drew.cell? ⟨w.heap.size + 1, 1, none⟩ = some (.bool false) := N0.cell 1
  have n2 : (w0.alloc (.cells #[.int .i64 0, .bool false, .nilFunc] 54)).drew.cell? ⟨w.heap.size + 1, 2, none⟩ = some .nilFunc := N0.cell 2
  have p0 := N0.free 0
  have p1 := N0.free 1
  have p2 := N0.free 2
  clear N0
  go_enter Tryz.func37, Tryz.ntmps37
  go_upto_region 1 with fail
  rw [hw0'.out]
  go_region_held3 (fun wx => wx.cell? ⟨db, 0, none⟩ = some (.map (some m)) ∧ wx.cell? ⟨w.heap.size, 0, none⟩ = some (.string x) ∧ (Instr.lookup 27 (.map (some m)) (.string x) true).run Tryz.prog wx = .ok (.tuple #[.agg #[.int .i64 n, .bool q, .func (.func f) #[.pointer (some ⟨db, 0, none⟩)] #[]], .bool true]) wx) ((refine KK.out _ ?_; first | exact (Below.refl _ _).drew | exact ((Below.refl _ _).alloc (Nat.le_refl _) _).drew | exact ((((((Below.refl _ _).alloc (Nat.le_refl _) _).drew).setCell (p := ⟨_, 0, none⟩) (Nat.le_of_eq hs0) _).setCell (p := ⟨_, 1, none⟩) (Nat.le_of_eq hs0) _).setCell (p := ⟨_, 2, none⟩) (Nat.le_of_eq hs0) _) | exact (((((Below.refl _ _).drew).alloc (Nat.le_refl _) _).setCell (p := ⟨_, 0, none⟩) (Nat.le_refl _) _).setCell (p := ⟨_, 1, none⟩) (Nat.le_refl _) _).setCell (p := ⟨_, 2, none⟩) (Nat.le_refl _) _ | (trace_state; fail))) (fail)
  all_goals (
    have N9 : HasR (w0.alloc (.cells #[.int .i64 n, .bool q, .func (.func f) #[.pointer (some ⟨db, 0, none⟩)] #[]] 54)).drew (w.heap.size + 1) 54 #[.int .i64 n, .bool q, .func (.func f) #[.pointer (some ⟨db, 0, none⟩)] #[]] := by rw [← hs0]; exact (HasR.new w0 54 _).drew
    have X9 : HasR (w0.alloc (.cells #[.int .i64 n, .bool q, .func (.func f) #[.pointer (some ⟨db, 0, none⟩)] #[]] 54)).drew w.heap.size 65 #[.string x, .slice v0 k c, .int .i64 0] := (X0.out.alloc _).drew
    have hbz : Below w.heap.size w (w0.alloc (.cells #[.int .i64 n, .bool q, .func (.func f) #[.pointer (some ⟨db, 0, none⟩)] #[]] 54)).drew := (B0.out.alloc B0.out.size _).drew
    have T2 := hide (TH.out _ hbz)
    have q0 : (w0.alloc (.cells #[.int .i64 n, .bool q, .func (.func f) #[.pointer (some ⟨db, 0, none⟩)] #[]] 54)).drew.cell? ⟨w.heap.size + 1, 0, none⟩ = some (.int .i64 n) := N9.cell 0
    have q1 : (w0.alloc (.cells #[.int .i64 n, .bool q, .func (.func f) #[.pointer (some ⟨db, 0, none⟩)] #[]] 54)).drew.cell? ⟨w.heap.size + 1, 1, none⟩ = some (.bool q) := N9.cell 1
    have q2 : (w0.alloc (.cells #[.int .i64 n, .bool q, .func (.func f) #[.pointer (some ⟨db, 0, none⟩)] #[]] 54)).drew.cell? ⟨w.heap.size + 1, 2, none⟩ = some (.func (.func f) #[.pointer (some ⟨db, 0, none⟩)] #[]) := N9.cell 2
    have y0 : (w0.alloc (.cells #[.int .i64 n, .bool q, .func (.func f) #[.pointer (some ⟨db, 0, none⟩)] #[]] 54)).drew.cell? ⟨w.heap.size, 0, none⟩ = some (.string x) := X9.cell 0
    have y1 : (w0.alloc (.cells #[.int .i64 n, .bool q, .func (.func f) #[.pointer (some ⟨db, 0, none⟩)] #[]] 54)).drew.cell? ⟨w.heap.size, 1, none⟩ = some (.slice v0 k c) := X9.cell 1
    have y2 : (w0.alloc (.cells #[.int .i64 n, .bool q, .func (.func f) #[.pointer (some ⟨db, 0, none⟩)] #[]] 54)).drew.cell? ⟨w.heap.size, 2, none⟩ = some (.int .i64 0) := X9.cell 2
    clear N9 X9
    generalize (w0.alloc (.cells #[.int .i64 n, .bool q, .func (.func f) #[.pointer (some ⟨db, 0, none⟩)] #[]] 54)).drew = w9 at q0 q1 q2 y0 y1 y2 hbz T2 ⊢)
  all_goals (go_wp2_with (go_at_call 49; (with_reducible refine T2.out.mono ?_); rintro _ w8 ⟨rfl, hb9⟩))
  all_goals exact ⟨rfl, rfl, hbz.trans (hb9.mono hbz.size)⟩
end Go.Proofs.YtdjpghgnjcmdnaaGreatDoor

/- A line obeyed: its last word is no number. -/
namespace Go.Proofs.YtdjpghgnjcmdnaaGreatDoor
open Go.RowKit Go.Shelf Go.Sort Go.Maps
attribute [local go_sem ↓] Go.wp_at_zero Go.wp_at_succ
set_option linter.unusedSectionVars false
variable [Inhabited LowT]
theorem run_store_fnG (P : Program) (w : World) (a : Addr) (m : Mode) (fn : Fn) (first captured : Array Value) : (store a (.func fn first captured) m).run P w = stored P w a (.func fn first captured) m := run_store P w a _ m rfl
theorem run_store_nilG (P : Program) (w : World) (a : Addr) (m : Mode) : (store a .nilFunc m).run P w = stored P w a .nilFunc m := run_store P w a _ m rfl
attribute [local go_sem] run_store_fnG run_store_nilG
set_option maxRecDepth 100000 in
set_option maxHeartbeats 2000000 in
theorem obey_bad (db m f : Nat) (n : Int) (g off : Nat) (lw : List UInt8) (hlw : lw.length ≤ 30000) (hnum : numW lw = none) (x : ByteArray) (k c : Nat) (w : World) (hk1 : 1 ≤ k) (hk2 : k ≤ 30001) (hfit : (n != -1) = false ∨ ((n != -1) = true ∧ (n != (k : Int)) = false)) (hE : TabE w) (hP : Pow w) (hS : ErrS w)
    (hg : g < w.heap.size) (hlast : w.cell? ⟨g, off + (k - 1), none⟩ = some (.string (textL lw)))
    (hd : w.cell? ⟨db, 0, none⟩ = some (.map (some m))) (hdl : db < w.heap.size)
    (LK : ∀ wx, Below w.heap.size w wx → (Instr.lookup 27 (.map (some m)) (.string x) true).run Tryz.prog wx = .ok (.tuple #[.agg #[.int .i64 n, .bool true, .func (.func f) #[.pointer (some ⟨db, 0, none⟩)] #[]], .bool true]) wx) :
    Calls Tryz.prog 37 #[.pointer (some ⟨db, 0, none⟩), .agg #[.string x, .slice (some ⟨g, off, none⟩) k c, .int .i64 0]] w fun e w' => e = thrown 3 ∧ Below w.heap.size w w' := by
  have TH := hide (fun wx (hb : Below w.heap.size w wx) => number_bad lw hlw hnum wx (hP.below hb hP.lt) (hS.below hb hS.lt) (hE.below hb hE.lt))
  have HLW := hide (fun wx (hb : Below w.heap.size w wx) => (World.cell?_of_block (hb.block g hg)).trans hlast)
  have k1 : (0 : Int) ≤ (k : Int) - 1 := by omega
  have k2 : (k : Int) - 1 < (k : Int) := by omega
  have k3 : wrap64 ((k : Int) - 1) = (k : Int) - 1 := by unfold wrap64; omega
  have k4 : ((k : Int) - 1).toNat = k - 1 := by omega
  have X0 := hide (HasR.new w 65 #[.string x, .slice (some ⟨g, off, none⟩) k c, .int .i64 0])
  have B0 := hide ((Below.refl w.heap.size w).alloc (Nat.le_refl _) (.cells #[.string x, .slice (some ⟨g, off, none⟩) k c, .int .i64 0] 65))
  obtain ⟨w0, hw0⟩ : ∃ w0, w.alloc (.cells #[.string x, .slice (some ⟨g, off, none⟩) k c, .int .i64 0] 65) = w0 := ⟨_, rfl⟩
  have hs0 : w0.heap.size = w.heap.size + 1 := by rw [← hw0]; simp
  rw [hw0] at X0 B0
  have KK : Hid (∀ wx, Below w0.heap.size w0 wx → wx.cell? ⟨db, 0, none⟩ = some (.map (some m)) ∧ wx.cell? ⟨w.heap.size, 0, none⟩ = some (.string x) ∧ (Instr.lookup 27 (.map (some m)) (.string x) true).run Tryz.prog wx = .ok (.tuple #[.agg #[.int .i64 n, .bool true, .func (.func f) #[.pointer (some ⟨db, 0, none⟩)] #[]], .bool true]) wx) := hide fun wx hb => by
    have hbb : Below w.heap.size w wx := B0.out.trans (hb.mono B0.out.size)
    exact ⟨(World.cell?_of_block (hbb.block db hdl)).trans hd, (X0.out.below hb X0.out.lt).cell 0, LK wx hbb⟩
  have hw0' := hide hw0
  have HDB := hide hdl
  clear hE hP hS hlast hd LK hk1 hk2 hlw hnum hw0 hdl
  have N0 : HasR (w0.alloc (.cells #[.int .i64 0, .bool false, .nilFunc] 54)).drew (w.heap.size + 1) 54 #[.int .i64 0, .bool false, .nilFunc] := by rw [← hs0]; exact (HasR.new w0 54 _).drew
  have n0 : (w0.alloc (.cells #[.int .i64 0, .bool false, .nilFunc] 54)).drew.cell? ⟨w.heap.size + 1, 0, none⟩ = some (.int .i64 0) := N0.cell 0
  have n1 : (w0.alloc (.cells #[.int .i64 0, .bool false, .nilFunc] 54)).drew.cell? ⟨w.heap.size + 1, 1, none⟩ = some (.bool false) := N0.cell 1
  have n2 : (w0.alloc (.cells #[.int .i64 0, .bool false, .nilFunc] 54)).drew.cell? ⟨w.heap.size + 1, 2, none⟩ = some .nilFunc := N0.cell 2
  have p0 := N0.free 0
  have p1 := N0.free 1
  have p2 := N0.free 2
  clear N0
  go_enter Tryz.func37, Tryz.ntmps37
  go_upto_region 1 with fail
  rw [hw0'.out]
  go_region_held3 (fun wx => wx.cell? ⟨db, 0, none⟩ = some (.map (some m)) ∧ wx.cell? ⟨w.heap.size, 0, none⟩ = some (.string x) ∧ (Instr.lookup 27 (.map (some m)) (.string x) true).run Tryz.prog wx = .ok (.tuple #[.agg #[.int .i64 n, .bool true, .func (.func f) #[.pointer (some ⟨db, 0, none⟩)] #[]], .bool true]) wx) ((refine KK.out _ ?_; first | exact (Below.refl _ _).drew | exact ((Below.refl _ _).alloc (Nat.le_refl _) _).drew | exact ((((((Below.refl _ _).alloc (Nat.le_refl _) _).drew).setCell (p := ⟨_, 0, none⟩) (Nat.le_of_eq hs0) _).setCell (p := ⟨_, 1, none⟩) (Nat.le_of_eq hs0) _).setCell (p := ⟨_, 2, none⟩) (Nat.le_of_eq hs0) _) | exact (((((Below.refl _ _).drew).alloc (Nat.le_refl _) _).setCell (p := ⟨_, 0, none⟩) (Nat.le_refl _) _).setCell (p := ⟨_, 1, none⟩) (Nat.le_refl _) _).setCell (p := ⟨_, 2, none⟩) (Nat.le_refl _) _ | (trace_state; fail))) (fail)
  all_goals (
    have N9 : HasR (w0.alloc (.cells #[.int .i64 n, .bool true, .func (.func f) #[.pointer (some ⟨db, 0, none⟩)] #[]] 54)).drew (w.heap.size + 1) 54 #[.int .i64 n, .bool true, .func (.func f) #[.pointer (some ⟨db, 0, none⟩)] #[]] := by rw [← hs0]; exact (HasR.new w0 54 _).drew
    have X9 : HasR (w0.alloc (.cells #[.int .i64 n, .bool true, .func (.func f) #[.pointer (some ⟨db, 0, none⟩)] #[]] 54)).drew w.heap.size 65 #[.string x, .slice (some ⟨g, off, none⟩) k c, .int .i64 0] := (X0.out.alloc _).drew
    have hbz : Below w.heap.size w (w0.alloc (.cells #[.int .i64 n, .bool true, .func (.func f) #[.pointer (some ⟨db, 0, none⟩)] #[]] 54)).drew := (B0.out.alloc B0.out.size _).drew
    have hl9 := HLW.out _ hbz
    have T2 := hide (TH.out _ hbz)
    have q0 : (w0.alloc (.cells #[.int .i64 n, .bool true, .func (.func f) #[.pointer (some ⟨db, 0, none⟩)] #[]] 54)).drew.cell? ⟨w.heap.size + 1, 0, none⟩ = some (.int .i64 n) := N9.cell 0
    have q1 : (w0.alloc (.cells #[.int .i64 n, .bool true, .func (.func f) #[.pointer (some ⟨db, 0, none⟩)] #[]] 54)).drew.cell? ⟨w.heap.size + 1, 1, none⟩ = some (.bool true) := N9.cell 1
    have q2 : (w0.alloc (.cells #[.int .i64 n, .bool true, .func (.func f) #[.pointer (some ⟨db, 0, none⟩)] #[]] 54)).drew.cell? ⟨w.heap.size + 1, 2, none⟩ = some (.func (.func f) #[.pointer (some ⟨db, 0, none⟩)] #[]) := N9.cell 2
    have y0 : (w0.alloc (.cells #[.int .i64 n, .bool true, .func (.func f) #[.pointer (some ⟨db, 0, none⟩)] #[]] 54)).drew.cell? ⟨w.heap.size, 0, none⟩ = some (.string x) := X9.cell 0
    have y1 : (w0.alloc (.cells #[.int .i64 n, .bool true, .func (.func f) #[.pointer (some ⟨db, 0, none⟩)] #[]] 54)).drew.cell? ⟨w.heap.size, 1, none⟩ = some (.slice (some ⟨g, off, none⟩) k c) := X9.cell 1
    have y2 : (w0.alloc (.cells #[.int .i64 n, .bool true, .func (.func f) #[.pointer (some ⟨db, 0, none⟩)] #[]] 54)).drew.cell? ⟨w.heap.size, 2, none⟩ = some (.int .i64 0) := X9.cell 2
    clear N9 X9
    generalize (w0.alloc (.cells #[.int .i64 n, .bool true, .func (.func f) #[.pointer (some ⟨db, 0, none⟩)] #[]] 54)).drew = w9 at q0 q1 q2 y0 y1 y2 hl9 hbz T2 ⊢)
  all_goals (rcases hfit with hf | ⟨hf, hf2⟩)
  all_goals (go_wp2_with (go_at_call 72; (with_reducible refine T2.out.mono ?_); rintro _ w8 ⟨rfl, hb9⟩))
  all_goals exact ⟨rfl, rfl, hbz.trans (hb9.mono hbz.size)⟩
end Go.Proofs.YtdjpghgnjcmdnaaGreatDoor
