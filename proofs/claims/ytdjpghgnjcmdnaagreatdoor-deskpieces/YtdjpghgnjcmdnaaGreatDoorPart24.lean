/- Texts of this proof, one behind the other. -/
import Derived.Test.YtdjpghgnjcmdnaaGreatDoorPart23
/- A source's vault, and its rows. -/
namespace Go.Proofs.YtdjpghgnjcmdnaaGreatDoor
open Go.RowKit Go.Sort
attribute [local go_sem ↓] Go.wp_at_zero Go.wp_at_succ
set_option linter.unusedSectionVars false
set_option maxRecDepth 100000 in
set_option maxHeartbeats 1000000 in
theorem srcVault_any (B : Nat) (w : World) (sb fb vb : Nat) (mt mv : Option Nat) (v : Value) (nt nv : Nat) (sec : ByteArray) (σ : Kept) (τ : Tab) (rs : List Rec) (h : Src B w sb fb vb mt mv v nt nv sec σ τ rs) :
    Calls Tryz.prog 56 #[.pointer (some ⟨sb, 0, none⟩)] w fun x w' => x = .returned (.pointer (some ⟨vb, 0, none⟩)) ∧ w' = w := by
  have hq := ptrS_nil sb
  have c0 : w.cell? ⟨sb, 0, none⟩ = some (.pointer (some ⟨vb, 0, none⟩)) := h.tab.row.cell 0
  clear h
  go_enter Tryz.func56, Tryz.ntmps56
  go_wp2
  go_ret
  exact ⟨rfl, rfl⟩
section
variable [Inhabited Cl]
set_option maxRecDepth 100000 in
set_option maxHeartbeats 1000000 in
theorem srcCells_any (B : Nat) (w : World) (sb fb vb : Nat) (mt mv : Option Nat) (v : Value) (nt nv : Nat) (sec : ByteArray) (σ : Kept) (τ : Tab) (rs : List Rec) (h : Src B w sb fb vb mt mv v nt nv sec σ τ rs) (hn : nt ≤ 1000) :
    Calls Tryz.prog 45 #[.pointer (some ⟨sb, 0, none⟩)] w fun x w' => ∃ u ds, x = .returned u ∧ InOrd τ ds ∧ ds.length ≤ nt ∧ RowC w' w.heap.size u ds ∧ Below w.heap.size w w' := by
  have hq := ptrS_nil sb
  have C0 := cells_any sb 112 #[.pointer (some ⟨vb, 0, none⟩), .pointer (some ⟨fb, 0, none⟩)] mt nt τ w hn h.tab
  rw [show (#[Value.pointer (some ⟨vb, 0, none⟩), Value.pointer (some ⟨fb, 0, none⟩)] : Array Value).size = 2 from rfl] at C0
  have C := hide C0
  clear C0
  clear h
  go_enter Tryz.func45, Tryz.ntmps45
  go_wp2_with (go_at_call 81; (with_reducible refine C.out.mono ?_); rintro x w1 ⟨u, ds, rfl, ho, hl, hr, hb⟩)
  go_ret
  exact ⟨u, ds, rfl, ho, hl, hr, hb⟩
end
end Go.Proofs.YtdjpghgnjcmdnaaGreatDoor

/- A new vault, a new feed, a new source. -/
namespace Go.Proofs.YtdjpghgnjcmdnaaGreatDoor
open Go.RowKit
attribute [local go_sem ↓] Go.wp_at_zero Go.wp_at_succ
theorem ptrV_nil (b : Nat) (w : World) : (binOp .eql 93 (.pointer (some ⟨b, 0, none⟩)) (.pointer none)).run Tryz.prog w = .ok (.bool false) w := by kernel_rfl
set_option maxRecDepth 100000 in
set_option maxHeartbeats 400000 in
theorem vaultNew_ok (sec : ByteArray) (w : World) (h : sec.size = 16) :
    Calls Tryz.prog 66 #[.string sec] w fun e w' => e = .returned (.tuple #[.pointer (some ⟨w.heap.size, 0, none⟩), .nilIface]) ∧ w' = w.alloc (.cells #[.string sec, .map none] 143) := by
  have hz : (sec.size : Int) = 16 := by omega
  go_enter Tryz.func66, Tryz.ntmps66
  go_wp2
  go_ret2
  exact ⟨rfl, rfl⟩
set_option maxRecDepth 100000 in
set_option maxHeartbeats 400000 in
theorem feedNew_ok (vb : Nat) (w : World) :
    Calls Tryz.prog 67 #[.pointer (some ⟨vb, 0, none⟩)] w fun e w' => e = .returned (.tuple #[.pointer (some ⟨w.heap.size, 0, none⟩), .nilIface]) ∧ w' = w.alloc (.cells #[.pointer (some ⟨vb, 0, none⟩), .slice none 0 0] 156) := by
  have hq := ptrV_nil vb
  go_enter Tryz.func67, Tryz.ntmps67
  go_wp2
  go_ret2
  exact ⟨rfl, rfl⟩
set_option maxRecDepth 100000 in
set_option maxHeartbeats 1000000 in
theorem srcNew_ok (sec : ByteArray) (w : World) (h : sec.size = 16) :
    Calls Tryz.prog 29 #[.string sec] w fun e w' => e = .returned (.tuple #[.pointer (some ⟨w.heap.size + 2, 0, none⟩), .nilIface]) ∧ Src w.heap.size w' (w.heap.size + 2) (w.heap.size + 1) w.heap.size none none (.slice none 0 0) 0 0 sec kept0 tab0 [] ∧ Below w.heap.size w w' := by
  have V := hide (vaultNew_ok sec w h)
  have F := hide (feedNew_ok w.heap.size (w.alloc (.cells #[.string sec, .map none] 143)))
  rw [World.size_alloc] at F
  have hne := nilNe
  have b1 : Below w.heap.size w (w.alloc (.cells #[.string sec, .map none] 143)) := (Below.refl _ w).alloc (Nat.le_refl _) _
  have b2 := b1.alloc b1.size (.cells #[.pointer (some ⟨w.heap.size, 0, none⟩), .slice none 0 0] 156)
  have b3 := hide (b2.alloc b2.size (.cells #[.pointer (some ⟨w.heap.size, 0, none⟩), .pointer (some ⟨w.heap.size + 1, 0, none⟩), .map none] 112))
  have r1 := hide (((HasR.new w 143 #[.string sec, .map none]).alloc (.cells #[.pointer (some ⟨w.heap.size, 0, none⟩), .slice none 0 0] 156)).alloc (.cells #[.pointer (some ⟨w.heap.size, 0, none⟩), .pointer (some ⟨w.heap.size + 1, 0, none⟩), .map none] 112))
  have r2 := hide ((HasR.new (w.alloc (.cells #[.string sec, .map none] 143)) 156 #[.pointer (some ⟨w.heap.size, 0, none⟩), .slice none 0 0]).alloc (.cells #[.pointer (some ⟨w.heap.size, 0, none⟩), .pointer (some ⟨w.heap.size + 1, 0, none⟩), .map none] 112))
  have r3 := hide (HasR.new ((w.alloc (.cells #[.string sec, .map none] 143)).alloc (.cells #[.pointer (some ⟨w.heap.size, 0, none⟩), .slice none 0 0] 156)) 112 #[.pointer (some ⟨w.heap.size, 0, none⟩), .pointer (some ⟨w.heap.size + 1, 0, none⟩), .map none])
  rw [World.size_alloc] at r2
  rw [World.size_alloc, World.size_alloc] at r3
  clear b1 b2 h
  go_enter Tryz.func29, Tryz.ntmps29
  go_wp2_with (first
    | (go_at_call 66; (with_reducible refine V.out.mono ?_); rintro x w1 ⟨rfl, rfl⟩)
    | (go_at_call 67; (with_reducible refine F.out.mono ?_); rintro x w2 ⟨rfl, rfl⟩))
  go_ret2
  have hsz := b3.out.size
  refine ⟨rfl, ⟨⟨r3.out, fun _ => rfl, (fun m e => by cases e)⟩, ⟨r2.out, World.ownsRow_nil _ _ _ _⟩, ⟨r1.out, fun _ => rfl, (fun m e => by cases e)⟩, (fun l => by show (0 : Nat) ≤ 0; omega), (fun m m' e => by cases e), (fun r hr => by simp at hr), hsz, by omega, by omega, Nat.le_refl _, (fun m e => by cases e), (fun m e => by cases e), (fun g e => by cases e)⟩, b3.out⟩
end Go.Proofs.YtdjpghgnjcmdnaaGreatDoor

/- Key: the program's own and the document's, for every subject and number. -/
namespace Go.Proofs.YtdjpghgnjcmdnaaGreatDoor
open Go.RowKit Go.Maps
attribute [local go_sem ↓] Go.wp_at_zero Go.wp_at_succ
set_option maxRecDepth 100000 in
set_option maxHeartbeats 1000000 in
theorem key_missing (b : Nat) (mo : Option Nat) (sec s : ByteArray) (n : Nat) (σ : Kept) (g : Int) (w : World) (hs : s.size ≤ 60) (hV : ProgV w b mo sec n σ) (hg : ¬ (1 ≤ g ∧ g ≤ ((σ s.data.toList).1 : Int))) :
    Calls Tryz.prog 209 #[.pointer (some ⟨b, 0, none⟩), .string s, .int .i64 g] w fun e w' => e = .returned (.tuple #[.string ByteArray.empty, .iface 25 (.int .i64 7)]) ∧ Below w.heap.size w w' := by
  have O := hide (of_any b mo sec s n σ w hs hV)
  generalize lastB sec σ s = k at O
  generalize (σ s.data.toList).1 = a at O hg
  by_cases h1 : g < 1
  · have d1 : decide (g < 1) = true := decide_eq_true h1
    clear hg
    go_enter Tryz.func209, Tryz.ntmps209
    go_wp2_with (go_at_call 200; (with_reducible refine O.out.mono ?_); rintro e w2 ⟨rfl, hb2⟩)
    go_ret2
    exact ⟨rfl, hb2.alloc hb2.size _⟩
  · have d1 : decide (g < 1) = false := decide_eq_false h1
    have d2 : decide ((a : Int) < g) = true := decide_eq_true (by omega)
    clear hg
    go_enter Tryz.func209, Tryz.ntmps209
    go_wp2_with (go_at_call 200; (with_reducible refine O.out.mono ?_); rintro e w2 ⟨rfl, hb2⟩)
    go_ret2
    exact ⟨rfl, hb2.alloc hb2.size _⟩
set_option maxRecDepth 100000 in
set_option maxHeartbeats 1000000 in
theorem key_gone (b : Nat) (mo : Option Nat) (sec s : ByteArray) (n : Nat) (σ : Kept) (g : Int) (w : World) (hs : s.size ≤ 60) (hV : ProgV w b mo sec n σ) (hg : 1 ≤ g ∧ g ≤ ((σ s.data.toList).1 : Int)) (hn : ¬ (g = ((σ s.data.toList).1 : Int) ∧ (σ s.data.toList).2 = true)) :
    Calls Tryz.prog 209 #[.pointer (some ⟨b, 0, none⟩), .string s, .int .i64 g] w fun e w' => e = .returned (.tuple #[.string ByteArray.empty, .iface 25 (.int .i64 8)]) ∧ Below w.heap.size w w' := by
  have O := hide (of_any b mo sec s n σ w hs hV)
  have d1 : decide (g < 1) = false := decide_eq_false (by omega)
  have d2 : decide (((σ s.data.toList).1 : Int) < g) = false := decide_eq_false (by omega)
  by_cases h1 : g < ((σ s.data.toList).1 : Int)
  · have d3 : decide (g < ((σ s.data.toList).1 : Int)) = true := decide_eq_true h1
    generalize lastB sec σ s = k at O
    generalize (σ s.data.toList).1 = a at O hg d2 d3
    clear hn hg h1
    go_enter Tryz.func209, Tryz.ntmps209
    go_wp2_with (go_at_call 200; (with_reducible refine O.out.mono ?_); rintro e w2 ⟨rfl, hb2⟩)
    go_ret2
    exact ⟨rfl, hb2.alloc hb2.size _⟩
  · have d3 : decide (g < ((σ s.data.toList).1 : Int)) = false := decide_eq_false h1
    have hh : (σ s.data.toList).2 = false := by
      cases e : (σ s.data.toList).2
      · rfl
      · exact absurd ⟨by omega, e⟩ hn
    rw [lastB_none hh] at O
    generalize (σ s.data.toList).1 = a at O hg d2 d3
    clear hn hg h1
    go_enter Tryz.func209, Tryz.ntmps209
    go_wp2_with (go_at_call 200; (with_reducible refine O.out.mono ?_); rintro e w2 ⟨rfl, hb2⟩)
    go_ret2
    exact ⟨rfl, hb2.alloc hb2.size _⟩
set_option maxRecDepth 100000 in
set_option maxHeartbeats 1000000 in
theorem key_there (b : Nat) (mo : Option Nat) (sec s : ByteArray) (n : Nat) (σ : Kept) (w : World) (hs : s.size ≤ 60) (hV : ProgV w b mo sec n σ) (hg : 1 ≤ (σ s.data.toList).1) (hh : (σ s.data.toList).2 = true) :
    Calls Tryz.prog 209 #[.pointer (some ⟨b, 0, none⟩), .string s, .int .i64 ((σ s.data.toList).1 : Int)] w fun e w' => e = .returned (.tuple #[.string (keyB sec s (σ s.data.toList).1), .nilIface]) ∧ Below w.heap.size w w' := by
  have O := hide (of_any b mo sec s n σ w hs hV)
  rw [lastB_held hh] at O
  have d := text_full (keyB_size sec s (σ s.data.toList).1)
  generalize keyB sec s (σ s.data.toList).1 = k at O d
  generalize (σ s.data.toList).1 = a at O hg
  have d1 : decide ((a : Int) < 1) = false := decide_eq_false (by omega)
  go_enter Tryz.func209, Tryz.ntmps209
  go_wp2_with (go_at_call 200; (with_reducible refine O.out.mono ?_); rintro e w2 ⟨rfl, hb2⟩)
  go_ret2
  exact ⟨rfl, hb2.alloc hb2.size _⟩
end Go.Proofs.YtdjpghgnjcmdnaaGreatDoor

/- A record's text, by a vault. -/
namespace Go.Proofs.YtdjpghgnjcmdnaaGreatDoor
open Go.RowKit
attribute [local go_sem ↓] Go.wp_at_zero Go.wp_at_succ
set_option maxRecDepth 100000 in
set_option maxHeartbeats 1000000 in
theorem unseal_open (pv : Value) (r : Rec) (w : World) (hg : r.g = 0) :
    Calls Tryz.prog 162 #[pv, .agg #[.int .i64 (r.q : Int), .string r.s, .int .i64 (r.g : Int), .string r.p, .string r.d]] w fun x w' => x = .returned (.tuple #[.string r.d, .nilIface]) ∧ Below w.heap.size w w' := by
  have bel := hide ((Below.refl _ w).alloc (Nat.le_refl _) (.cells #[.int .i64 (r.q : Int), .string r.s, .int .i64 (r.g : Int), .string r.p, .string r.d] 74))
  rw [hg] at bel ⊢
  go_enter Tryz.func162, Tryz.ntmps162
  go_wp2
  go_ret2
  exact ⟨rfl, bel.out⟩
set_option maxRecDepth 100000 in
set_option maxHeartbeats 1000000 in
theorem unseal_lost (b : Nat) (mo : Option Nat) (sec : ByteArray) (n : Nat) (σ : Kept) (r : Rec) (w : World) (hs : r.s.size ≤ 60) (hV : ProgV w b mo sec n σ) (h1 : 1 ≤ r.g) (h2 : r.g ≤ (σ r.s.data.toList).1) (hn : ¬ (r.g = (σ r.s.data.toList).1 ∧ (σ r.s.data.toList).2 = true)) :
    Calls Tryz.prog 162 #[.pointer (some ⟨b, 0, none⟩), .agg #[.int .i64 (r.q : Int), .string r.s, .int .i64 (r.g : Int), .string r.p, .string r.d]] w fun x w' => x = .returned (.tuple #[.string ⟨#[]⟩, .iface 25 (.int .i64 8)]) ∧ Below w.heap.size w w' := by
  have bel : Below w.heap.size w (w.alloc (.cells #[.int .i64 (r.q : Int), .string r.s, .int .i64 (r.g : Int), .string r.p, .string r.d] 74)) := (Below.refl _ w).alloc (Nat.le_refl _) _
  have K := hide (key_gone b mo sec r.s n σ (r.g : Int) _ hs (hV.below bel) ⟨by omega, by omega⟩ (fun h => hn ⟨by omega, h.2⟩))
  have hz : ((r.g : Int) == 0) = false := by simp; omega
  have hne := errNe
  have BL := hide bel
  clear hV bel hn
  go_enter Tryz.func162, Tryz.ntmps162
  go_wp2_with (go_at_call 209; (with_reducible refine K.out.mono ?_); rintro x w1 ⟨rfl, hb1⟩; have B1 := hide (BL.out.trans (hb1.mono BL.out.size)); clear hb1)
  go_ret2
  exact ⟨rfl, B1.out⟩
set_option maxRecDepth 100000 in
set_option maxHeartbeats 1000000 in
theorem unseal_there (b : Nat) (mo : Option Nat) (sec : ByteArray) (n : Nat) (σ : Kept) (r : Rec) (t : ByteArray) (w : World) (hf : Fit r) (hV : ProgV w b mo sec n σ) (h1 : 1 ≤ r.g) (h2 : r.g = (σ r.s.data.toList).1) (hh : (σ r.s.data.toList).2 = true) (ht : t.size ≤ 400) (hK : TabK w) (hd : r.d = sealB (keyB sec r.s r.g) (nonceR r) (withR r) t) :
    Calls Tryz.prog 162 #[.pointer (some ⟨b, 0, none⟩), .agg #[.int .i64 (r.q : Int), .string r.s, .int .i64 (r.g : Int), .string r.p, .string r.d]] w fun x w' => x = .returned (.tuple #[.string t, .nilIface]) ∧ Below w.heap.size w w' := by
  have bel : Below w.heap.size w (w.alloc (.cells #[.int .i64 (r.q : Int), .string r.s, .int .i64 (r.g : Int), .string r.p, .string r.d] 74)) := (Below.refl _ w).alloc (Nat.le_refl _) _
  have K := hide (key_there b mo sec r.s n σ _ hf.s (hV.below bel) (by omega) hh)
  rw [← h2] at K
  have hz : ((r.g : Int) == 0) = false := by simp; omega
  have hne := nilNe
  have E0 := hide (HasR.new w 74 (recA r))
  have NO := hide (fun wx => nonce_any r wx hf)
  have WI := hide (fun wx hKx => with_any r wx hf hKx)
  have OP := hide (fun wx hKx => open_back (keyB sec r.s r.g) (nonceR r) (withR r) t wx ht (keyB_size _ _ _) (nonceR_size r) (by rw [withR_size]; omega) hKx)
  rw [← hd] at OP
  have BL := hide bel
  have HK := hide (hK.below bel hK.lt)
  generalize keyB sec r.s r.g = ky at K OP
  generalize nonceR r = no at NO OP
  generalize withR r = wi at WI OP
  clear hV bel hd h2 hK
  unfold recA at E0
  go_enter Tryz.func162, Tryz.ntmps162
  go_upto_region 6 with (go_at_call 209; (with_reducible refine K.out.mono ?_); rintro x w1 ⟨rfl, hb1⟩; have B1 := hide (BL.out.trans (hb1.mono BL.out.size)); have K1 := hide (HK.out.below hb1 HK.out.lt); have E1 := hide (E0.out.below hb1 E0.out.lt); clear hb1)
  obtain ⟨c0, c1, c2, c3, c4⟩ := rec_cells E1.out
  have BD := hide B1.out.drew
  have KD := hide (K1.out.below (Below.refl _ w1).drew K1.out.lt)
  have ED := hide E1.out.drew
  go_region_held3 (fun wx => wx.cell? ⟨w.heap.size, 0, none⟩ = some (.int .i64 (r.q : Int)) ∧ wx.cell? ⟨w.heap.size, 1, none⟩ = some (.string r.s) ∧ wx.cell? ⟨w.heap.size, 2, none⟩ = some (.int .i64 (r.g : Int)) ∧ wx.cell? ⟨w.heap.size, 3, none⟩ = some (.string r.p) ∧ wx.cell? ⟨w.heap.size, 4, none⟩ = some (.string r.d)) (first | (with_reducible exact C4.out) | (with_reducible exact C3.out) | (with_reducible exact C2.out) | go_keep)
    (first
    | (go_at_call 154; (with_reducible refine (NO.out _).mono ?_); rintro x w2 ⟨rfl, hb2⟩; have B2 := hide (BD.out.trans (hb2.mono BD.out.size)); have K2 := hide (KD.out.below hb2 KD.out.lt); have E2 := hide (ED.out.below hb2 ED.out.lt); have C2 := hide (rec_cells E2.out); clear hb2)
    | (go_at_call 155; (with_reducible refine (WI.out _ K2.out).mono ?_); rintro x w3 ⟨rfl, hb3⟩; have B3 := hide (B2.out.trans (hb3.mono B2.out.size)); have K3 := hide (K2.out.below hb3 K2.out.lt); have E3 := hide (E2.out.below hb3 E2.out.lt); have C3 := hide (rec_cells E3.out); clear hb3)
    | (go_at_call 210; (with_reducible refine (OP.out _ K3.out).mono ?_); rintro x w4 ⟨rfl, hb4⟩; have B4 := hide (B3.out.trans (hb4.mono B3.out.size)); have C4 := hide (rec_cells (E3.out.below hb4 E3.out.lt)); clear hb4))
  go_wp2
  go_ret2
  exact ⟨rfl, B4.out⟩
end Go.Proofs.YtdjpghgnjcmdnaaGreatDoor
