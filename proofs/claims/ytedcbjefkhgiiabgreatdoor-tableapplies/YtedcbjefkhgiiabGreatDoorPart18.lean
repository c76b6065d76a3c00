/- Texts of this proof, one behind the other. -/
import Derived.Shelf.GgSortFunc.LotD
import Derived.Test.YtedcbjefkhgiiabGreatDoorPart17
/- sort.heapSort_func with a 'less' that may make blocks. -/
namespace Go.Proofs.YtedcbjefkhgiiabGreatDoor
open Go.RowKit Go.Sort
attribute [local go_sem ↓] Go.wp_at_zero Go.wp_at_succ
set_option linter.unusedSectionVars false
variable [Inhabited Cl]
theorem Dat.call {w0 W : World} {blk g : Nat} {lb : Array Value} {sf : Nat} {sb : Array Value} {w w' : World} {d d' : Array Cl} (h : Dat w0 W blk g lb sf sb w d) (s : Srt w0 blk w' d') (k : Stirred [blk] w w') : Dat w0 W blk g lb sf sb w' d' :=
  have hl := h.lt
  ⟨s, h.box.turned k (by simp; omega), h.but.andThen k (fun j hj => .inl hj), h.lt⟩
set_option maxHeartbeats 4000000 in
set_option maxRecDepth 1000000 in
theorem heap_any (w0 : World) (blk n g : Nat) (lb : Array Value) (sf : Nat) (sb : Array Value) (a b : Nat) (d : Array Cl) (W : World) (eg : ∀ args w, (callFunc g args).run Tryz.prog w = .ok (.enter g args) w)
    (hless : LessS w0 blk n g lb) (hswap : SwapSwapsK Tryz.prog sf sb cellL 4 blk 0 n) (hS : Srt w0 blk W d) (hd : d.size = n) (hab : a ≤ b) (hb : b ≤ n) (hn : n ≤ 1000000) :
    Calls Tryz.prog 127 #[.agg #[.func (.func g) #[] lb, .func (.func sf) #[] sb], .int .i64 a, .int .i64 b] W fun e w' => e = .returned (.tuple #[]) ∧ Srt w0 blk w' (heapSort ltC d a b) ∧ Stirred [blk] W w' := by
  have D0 := hide (dat_new hS g lb sf sb)
  have SD := hide (fun lo hi first dk wx (hs : Srt w0 blk wx dk) (hd : dk.size = n) (h1 : lo ≤ hi) (h2 : first + hi ≤ n) => sift_any w0 blk n g lb sf sb lo hi first dk wx eg hless hswap hs hd h1 h2 hn)
  have HW := hide hswap
  have ecast : ((b - a : Nat) : Int) = (b : Int) - (a : Int) := by omega
  clear hS hless hswap
  go_enter Tryz.func127, Tryz.ntmps127
  go_wp2
  go_loopg [9] ((b - a - 1) / 2 + 1) (fun kx s9 wr => s9 = .int .i64 ((kx : Int) - 1) ∧ kx ≤ (b - a - 1) / 2 + 1 ∧ ∃ (dk : Array Cl), dk.size = n ∧ Dat w0 W blk g lb sf sb wr dk ∧ Hid (heapBuild ltC (b - a) a kx dk = heapBuild ltC (b - a) a ((b - a - 1) / 2 + 1) d))
  case atStart => exact ⟨by rw [half_start hab], Nat.le_refl _, d, hd, D0.out, rfl⟩
  case round =>
    clear D0
    obtain ⟨rfl, hkk, dk, hds, hD, HE⟩ := hrel
    have D := hide hD
    have c0 : wr.cell? ⟨W.heap.size, 0, none⟩ = some (.func (.func g) #[] lb) := hD.box.cell 0
    have c1 : wr.cell? ⟨W.heap.size, 1, none⟩ = some (.func (.func sf) #[] sb) := hD.box.cell 1
    clear hD
    cases gk with
    | zero =>
      have hB : Hid (dk = heapBuild ltC (b - a) a ((b - a - 1) / 2 + 1) d) := HE.out
      clear HE hkk
      go_wp2
      go_loopg [10] (b - a) (fun kx s10 wr2 => s10 = .int .i64 ((kx : Int) - 1) ∧ kx ≤ b - a ∧ ∃ (dj : Array Cl), dj.size = n ∧ Dat w0 W blk g lb sf sb wr2 dj ∧ Hid (heapPop ltC a kx dj = heapPop ltC a (b - a) dk))
      case atStart => exact ⟨by rw [ecast], Nat.le_refl _, dk, hds, D.out, rfl⟩
      case round =>
        clear D c0 c1
        obtain ⟨rfl, hkk, dj, hdj, hD, HE2⟩ := hrel
        have D := hide hD
        have c1 : wr.cell? ⟨W.heap.size, 1, none⟩ = some (.func (.func sf) #[] sb) := hD.box.cell 1
        clear hD
        cases gk with
        | zero =>
          go_wp2
          go_end0
          have e : dj = heapSort ltC d a b := by rw [heapSort, ← hB.out, ← HE2.out]; rfl
          rw [← e]
          exact ⟨rfl, D.out.srt, D.out.but⟩
        | succ kx =>
          obtain ⟨w3, hw3, hD3⟩ := D.out.swap HW.out hdj (i := a) (j := a + kx) (by omega) (by omega) (x := (a : Int)) (y := (a : Int) + (kx : Int)) rfl (by omega)
          have hd2 : (swp dj a (a + kx)).size = n := by rw [size_swp]; exact hdj
          have D3 := hide hD3
          have e0 : w3.cell? ⟨W.heap.size, 0, none⟩ = some (.func (.func g) #[] lb) := hD3.box.cell 0
          have e1 : w3.cell? ⟨W.heap.size, 1, none⟩ = some (.func (.func sf) #[] sb) := hD3.box.cell 1
          have CL := hide (SD.out 0 kx a _ w3 D3.out.srt hd2 (Nat.zero_le _) (by omega))
          clear hD3
          go_wp2_with (go_at_call 162; refine CL.out.mono ?_; rintro e w1 ⟨rfl, s1, t1⟩; have D4 := hide (D3.out.call s1 t1); clear s1 t1)
          go_roundg kx
          case measure => omega
          case rel =>
            have hss : (siftDown ltC kx a 0 (swp dj a (a + kx))).size = (swp dj a (a + kx)).size := size_siftDown ltC _ _ _ _ _ (Nat.le_refl _)
            exact ⟨by simp, by omega, siftDown ltC kx a 0 (swp dj a (a + kx)), by rw [hss, hd2], D4.out, HE2⟩
    | succ kx =>
      have CL := hide (SD.out kx (b - a) a dk wr D.out.srt hds (by omega) (by omega))
      rw [ecast] at CL
      go_wp2_with (go_at_call 162; refine CL.out.mono ?_; rintro e w1 ⟨rfl, s1, t1⟩; have D4 := hide (D.out.call s1 t1); clear s1 t1)
      go_roundg kx
      case measure => omega
      case rel =>
        have hss : (siftDown ltC (b - a) a kx dk).size = dk.size := size_siftDown ltC _ _ _ _ _ (Nat.le_refl _)
        exact ⟨by simp, by omega, siftDown ltC (b - a) a kx dk, by rw [hss, hds], D4.out, HE⟩
end Go.Proofs.YtedcbjefkhgiiabGreatDoor

/- sort.order2_func and median_func with a 'less' that may make blocks. -/
namespace Go.Proofs.YtedcbjefkhgiiabGreatDoor
open Go.RowKit Go.Sort
attribute [local go_sem ↓] Go.wp_at_zero Go.wp_at_succ
set_option linter.unusedSectionVars false
variable [Inhabited Cl]
/-- The sort's world beside a counter. -/
structure Cnt (w0 : World) (blk cb : Nat) (w : World) (d : Array Cl) (s : Nat) : Prop where
  srt : Srt w0 blk w d
  cnt : HasR w cb 3 #[.int .i64 s]
  new : w0.heap.size ≤ cb
theorem Cnt.still {w0 : World} {blk cb : Nat} {w w' : World} {d : Array Cl} {s : Nat} (h : Cnt w0 blk cb w d s) (k : Below w.heap.size w w') : Cnt w0 blk cb w' d s := ⟨h.srt.still k, h.cnt.below k h.cnt.lt, h.new⟩
theorem Cnt.count {w0 : World} {blk cb : Nat} {w : World} {d : Array Cl} {s : Nat} (h : Cnt w0 blk cb w d s) : Cnt w0 blk cb (w.setCell ⟨cb, 0, none⟩ (.int .i64 ((s : Int) + 1))) d (s + 1) := by
  have hl := h.srt.lt
  have hn := h.new
  have t : Stirred [cb] w (w.setCell ⟨cb, 0, none⟩ (.int .i64 ((s : Int) + 1))) := Stirred.setCell w ⟨cb, 0, none⟩ _
  refine ⟨⟨holdsK_same h.srt.row (t.block blk (Nat.lt_of_lt_of_le hl h.srt.but.size) (by simp; omega)), h.srt.but.andThen t (fun j hj => .inr (by simp at hj; omega)), hl⟩, ?_, h.new⟩
  have := h.cnt.set 0 (.int .i64 ((s : Int) + 1))
  exact this
set_option maxHeartbeats 1000000 in
set_option maxRecDepth 100000 in
theorem order2_any (w0 : World) (blk n g : Nat) (lb : Array Value) (sf : Nat) (sb : Array Value) (a b cb s : Nat) (d : Array Cl) (W : World) (eg : ∀ args w, (callFunc g args).run Tryz.prog w = .ok (.enter g args) w)
    (hless : LessS w0 blk n g lb) (hC : Cnt w0 blk cb W d s) (hd : d.size = n) (ha : a < n) (hb : b < n) (hs : s < 1000000) :
    Calls Tryz.prog 193 #[.agg #[.func (.func g) #[] lb, .func (.func sf) #[] sb], .int .i64 a, .int .i64 b, .pointer (some ⟨cb, 0, none⟩)] W fun e w' =>
      e = .returned (.tuple #[.int .i64 (order2 ltC d a b s).1, .int .i64 (order2 ltC d a b s).2.1]) ∧ Cnt w0 blk cb w' d (order2 ltC d a b s).2.2 ∧ Stirred [cb] W w' := by
  have bel : Below W.heap.size W (W.alloc (.cells #[.func (.func g) #[] lb, .func (.func sf) #[] sb] 152)) := (Below.refl _ W).alloc (Nat.le_refl _) _
  have C1 := hide (hC.still bel)
  have hl := hless _ d C1.out.srt hd b a hb ha
  have c0 : (W.alloc (.cells #[.func (.func g) #[] lb, .func (.func sf) #[] sb] 152)).cell? ⟨W.heap.size, 0, none⟩ = some (.func (.func g) #[] lb) := by simp
  have B1 := hide bel
  clear hless hC bel
  cases hlv : ltC d[b]! d[a]! with
  | true =>
    rw [hlv] at hl
    have e2 : order2 ltC d a b s = (b, a, s + 1) := by simp [order2, hlv]
    rw [e2]
    clear e2 hlv
    go_enter Tryz.func193, Tryz.ntmps193
    go_wp2_with (go_at_fn g; refine hl.mono ?_; rintro e w' ⟨rfl, hb'⟩; have C2 := hide (C1.out.still hb'); have B2 := hide (B1.out.trans (hb'.mono B1.out.size)); have q0 : w'.cell? ⟨cb, 0, none⟩ = some (.int .i64 s) := C2.out.cnt.cell 0; have q1 : w'.frozen? ⟨cb, 0, none⟩ = false := C2.out.cnt.free 0; clear hb')
    go_ret2
    exact ⟨rfl, C2.out.count, (Stirred.of_below B2.out [cb]).andThen (Stirred.setCell w' ⟨cb, 0, none⟩ _) (fun j hj => .inl hj)⟩
  | false =>
    rw [hlv] at hl
    have e2 : order2 ltC d a b s = (a, b, s) := by simp [order2, hlv]
    rw [e2]
    clear e2 hlv
    go_enter Tryz.func193, Tryz.ntmps193
    go_wp2_with (go_at_fn g; refine hl.mono ?_; rintro e w' ⟨rfl, hb'⟩; have C2 := hide (C1.out.still hb'); have B2 := hide (B1.out.trans (hb'.mono B1.out.size)); clear hb')
    go_ret2
    exact ⟨rfl, C2.out, Stirred.of_below B2.out [cb]⟩
end Go.Proofs.YtedcbjefkhgiiabGreatDoor
