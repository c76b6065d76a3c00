/- A quarter round: what the program's own comes to, for every sixteen words and four places. -/
import Derived.Test.YteckhejfmbiamaaDoorLeft
import Derived.Test.YteckhejfmbiamaaDoorMem
import Derived.Deep.RegionHeld3
import Derived.Deep.DrawnRows
import Derived.Deep.DeepCutAuto
namespace Go.Proofs.YteckhejfmbiamaaDoor
open Go.RowKit
attribute [local go_sem] N_xor N_addm
attribute [local go_sem ↓] Go.wp_at_zero Go.wp_at_succ
/-- Nothing but block B was written, and nothing was laid. -/
structure Only (B : Nat) (w w' : World) : Prop where
  os : w'.os = w.os
  tape : w'.tape = w.tape
  output : w'.output = w.output
  size : w'.heap.size = w.heap.size
  block : ∀ k, k ≠ B → w'.heap[k]? = w.heap[k]?
theorem Only.refl (B : Nat) (w : World) : Only B w w := ⟨rfl, rfl, rfl, rfl, fun _ _ => rfl⟩
theorem Only.trans {B : Nat} {a b c : World} (h : Only B a b) (k : Only B b c) : Only B a c :=
  ⟨k.os.trans h.os, k.tape.trans h.tape, k.output.trans h.output, k.size.trans h.size, fun i hi => (k.block i hi).trans (h.block i hi)⟩
theorem Only.set (B o : Nat) (w : World) (v : Value) : Only B w (w.setCell ⟨B, o, none⟩ v) :=
  ⟨rfl, rfl, rfl, by simp, fun k hk => heap_setCell_other w ⟨B, o, none⟩ k v hk⟩
theorem Only.drew {B : Nat} {w w' : World} (h : Only B w w') : Only B w w'.drew := ⟨h.os, h.tape, h.output, h.size, h.block⟩
theorem Only.drewN {B : Nat} {w w' : World} (h : Only B w w') (n : Nat) : Only B w (w'.drewN n) := ⟨h.os, h.tape, h.output, h.size, h.block⟩
theorem Only.below {B b : Nat} {w w' : World} (h : Only B w w') (hb : b ≤ B) : Below b w w' :=
  ⟨h.os, h.tape, h.output, by rw [h.size]; exact Nat.le_refl _, fun k hk => h.block k (by omega)⟩
theorem Only.hasR {B b : Nat} {w w' : World} {t : TypeId} {cs : Array Value} (h : Only B w w') (hr : HasR w b t cs) (hb : b ≠ B) : HasR w' b t cs := by
  unfold HasR at *; rw [h.block b hb]; exact hr
set_option maxRecDepth 100000 in
set_option maxHeartbeats 1000000 in
theorem qr_any (B : Nat) (L : List (BitVec 32)) (a b c d : Nat) (ha : a < 16) (hb : b < 16) (hc : c < 16) (hd : d < 16) (hl : L.length = 16) (w : World) (h : HasW w B 81 L) :
    Calls Tryd.prog 72 #[.pointer (some ⟨B, 0, none⟩), .int .i64 a, .int .i64 b, .int .i64 c, .int .i64 d] w fun e w' => e = .returned (.tuple #[]) ∧ HasW w' B 81 (qr L a b c d) ∧ Only B w w' := by
  have ia : (a : Int) < 16 := by omega
  have ib : (b : Int) < 16 := by omega
  have ic : (c : Int) < 16 := by omega
  have id' : (d : Int) < 16 := by omega
  have o0 := Only.refl B w
  go_enter Tryd.func72, Tryd.ntmps72
  go_wp2
  go_cut [] (fun wr => HasW wr B 81 (sAdd L a b) ∧ Only B w wr)
  case first =>
    have cx := h.cell a (by omega)
    have cy := h.cell b (by omega)
    have fx := h.free a
    go_region
    all_goals (
      go_wp2
      go_meet
      case rel => exact ⟨(h.set a _).drew, o0.trans ((Only.set B a _ _).drew)⟩)
  case rest =>
    obtain ⟨h1, o1⟩ := hcut
    have l1 : (sAdd L a b).length = 16 := by rw [sAdd_len, hl]
    generalize hL1 : sAdd L a b = L1 at h1 l1
    clear h hl o0
    go_wp2
    go_cut [] (fun wr => HasW wr B 81 (sRot L1 d a 16) ∧ Only B w wr)
    case first =>
      have cx := h1.cell d (by omega)
      have cy := h1.cell a (by omega)
      have fx := h1.free d
      go_region_with (first | (go_at_call 87; refine (left_16 _ _).mono ?_; rintro e w' ⟨rfl, rfl⟩))
      all_goals (
        go_wp2
        go_meet
        case rel => exact ⟨(h1.set d _).drew, o1.trans ((Only.set B d _ _).drew)⟩)
    case rest =>
      obtain ⟨h2, o2⟩ := hcut
      have l2 : (sRot L1 d a 16).length = 16 := by rw [sRot_len, l1]
      generalize hL2 : sRot L1 d a 16 = L2 at h2 l2
      clear h1 l1 o1
      go_wp2
      go_cut [] (fun wr => HasW wr B 81 (sAdd L2 c d) ∧ Only B w wr)
      case first =>
        have cx := h2.cell c (by omega)
        have cy := h2.cell d (by omega)
        have fx := h2.free c
        go_region
        all_goals (
          go_wp2
          go_meet
          case rel => exact ⟨(h2.set c _).drew, o2.trans ((Only.set B c _ _).drew)⟩)
      case rest =>
        obtain ⟨h3, o3⟩ := hcut
        have l3 : (sAdd L2 c d).length = 16 := by rw [sAdd_len, l2]
        generalize hL3 : sAdd L2 c d = L3 at h3 l3
        clear h2 l2 o2
        go_wp2
        go_cut [] (fun wr => HasW wr B 81 (sRot L3 b c 12) ∧ Only B w wr)
        case first =>
          have cx := h3.cell b (by omega)
          have cy := h3.cell c (by omega)
          have fx := h3.free b
          go_region_with (first | (go_at_call 87; refine (left_12 _ _).mono ?_; rintro e w' ⟨rfl, rfl⟩))
          all_goals (
            go_wp2
            go_meet
            case rel => exact ⟨(h3.set b _).drew, o3.trans ((Only.set B b _ _).drew)⟩)
        case rest =>
          obtain ⟨h4, o4⟩ := hcut
          have l4 : (sRot L3 b c 12).length = 16 := by rw [sRot_len, l3]
          generalize hL4 : sRot L3 b c 12 = L4 at h4 l4
          clear h3 l3 o3
          go_wp2
          go_cut [] (fun wr => HasW wr B 81 (sAdd L4 a b) ∧ Only B w wr)
          case first =>
            have cx := h4.cell a (by omega)
            have cy := h4.cell b (by omega)
            have fx := h4.free a
            go_region
            all_goals (
              go_wp2
              go_meet
              case rel => exact ⟨(h4.set a _).drew, o4.trans ((Only.set B a _ _).drew)⟩)
          case rest =>
            obtain ⟨h5, o5⟩ := hcut
            have l5 : (sAdd L4 a b).length = 16 := by rw [sAdd_len, l4]
            generalize hL5 : sAdd L4 a b = L5 at h5 l5
            clear h4 l4 o4
            go_wp2
            go_cut [] (fun wr => HasW wr B 81 (sRot L5 d a 8) ∧ Only B w wr)
            case first =>
              have cx := h5.cell d (by omega)
              have cy := h5.cell a (by omega)
              have fx := h5.free d
              go_region_with (first | (go_at_call 87; refine (left_8 _ _).mono ?_; rintro e w' ⟨rfl, rfl⟩))
              all_goals (
                go_wp2
                go_meet
                case rel => exact ⟨(h5.set d _).drew, o5.trans ((Only.set B d _ _).drew)⟩)
            case rest =>
              obtain ⟨h6, o6⟩ := hcut
              have l6 : (sRot L5 d a 8).length = 16 := by rw [sRot_len, l5]
              generalize hL6 : sRot L5 d a 8 = L6 at h6 l6
              clear h5 l5 o5
              go_wp2
              go_cut [] (fun wr => HasW wr B 81 (sAdd L6 c d) ∧ Only B w wr)
              case first =>
                have cx := h6.cell c (by omega)
                have cy := h6.cell d (by omega)
                have fx := h6.free c
                go_region
                all_goals (
                  go_wp2
                  go_meet
                  case rel => exact ⟨(h6.set c _).drew, o6.trans ((Only.set B c _ _).drew)⟩)
              case rest =>
                obtain ⟨h7, o7⟩ := hcut
                have l7 : (sAdd L6 c d).length = 16 := by rw [sAdd_len, l6]
                generalize hL7 : sAdd L6 c d = L7 at h7 l7
                clear h6 l6 o6
                go_wp2
                have cx := h7.cell b (by omega)
                have cy := h7.cell c (by omega)
                have fx := h7.free b
                go_region_with (first | (go_at_call 87; refine (left_7 _ _).mono ?_; rintro e w' ⟨rfl, rfl⟩))
                all_goals (
                  go_wp2
                  go_end0
                  refine ⟨rfl, ?_, o7.trans ((Only.set B b _ _).drew)⟩
                  have e : qr L a b c d = sRot L7 b c 7 := by subst hL7 hL6 hL5 hL4 hL3 hL2 hL1; rfl
                  rw [e]
                  exact (h7.set b _).drew)
end Go.Proofs.YteckhejfmbiamaaDoor
