/- Texts of this proof, one behind the other. -/
import Derived.Deep.RegionHeld3
import Derived.Deep.RegionWith
import Derived.Deep.DeepCutAuto
import Derived.Test.YtdjpghgnjcmdnaaGreatDoorPart18
/- Records as mathematics, and the program's mark of one, its nonce, and what is bound to it. -/
namespace Go.Proofs.YtdjpghgnjcmdnaaGreatDoor
open Go.RowKit
attribute [local go_sem ↓] Go.wp_at_zero Go.wp_at_succ
/-- A record: its number, whose it is, by which key, the mark ahead, the body. -/
structure Rec where
  q : Nat
  s : ByteArray
  g : Nat
  p : ByteArray
  d : ByteArray
def recL (r : Rec) : List Value := [.int .i64 (r.q : Int), .string r.s, .int .i64 (r.g : Int), .string r.p, .string r.d]
def recA (r : Rec) : Array Value := #[.int .i64 (r.q : Int), .string r.s, .int .i64 (r.g : Int), .string r.p, .string r.d]
def markR (r : Rec) : ByteArray := markB 114 [num3 r.q, r.s, num3 r.g, r.p, r.d]
def withR (r : Rec) : ByteArray := markB 97 [num3 r.q, r.s, num3 r.g, r.p]
def feedB : ByteArray := ⟨#[102, 101, 101, 100]⟩
def nonceR (r : Rec) : ByteArray := num3 r.q ++ feedB
def noneB : ByteArray := ⟨#[0, 0, 0, 0, 0, 0, 0, 0, 0, 0, 0, 0, 0, 0, 0, 0]⟩
theorem markR_size (r : Rec) : (markR r).size = 16 := markB_size _ _
theorem withR_size (r : Rec) : (withR r).size = 16 := markB_size _ _
theorem nonceR_size (r : Rec) : (nonceR r).size = 12 := by
  unfold nonceR
  rw [ByteArray.size_append, num3_size]
  rfl
theorem noneB_size : noneB.size = 16 := rfl
/-- A record that is short. -/
structure Fit (r : Rec) : Prop where
  q : r.q < 1000000
  g : r.g < 1000000
  s : r.s.size ≤ 60
  p : r.p.size ≤ 60
  d : r.d.size ≤ 1000
theorem parts5 {w : World} (b : Nat) (p q r s t : ByteArray) (h : HasR w b 9 #[.string p, .string q, .string r, .string s, .string t]) :
    Parts w (.slice (some ⟨b, 0, none⟩) 5 5) [p, q, r, s, t] := by
  refine ⟨_, 5, rfl, .inr ⟨b, 0, rfl, h.lt, fun k hk => ?_⟩⟩
  have hk' : k < 5 := hk
  match k, hk' with
  | 0, _ => exact h.cell 0
  | 1, _ => exact h.cell 1
  | 2, _ => exact h.cell 2
  | 3, _ => exact h.cell 3
  | 4, _ => exact h.cell 4
theorem mark_rec (q s g p d : ByteArray) (w : World) (hq : q.size ≤ 20000) (hs : s.size ≤ 20000) (hg : g.size ≤ 20000) (hp : p.size ≤ 20000) (hd : d.size ≤ 20000) (hK : TabK w) :
    Calls Tryz.prog 30 #[.int .u8 114, .slice (some ⟨w.heap.size, 0, none⟩) 5 5] (w.alloc (.cells #[.string q, .string s, .string g, .string p, .string d] 9)) fun e w' => e = .returned (.string (markB 114 [q, s, g, p, d])) ∧ Below w.heap.size w w' :=
  have b1 : Below w.heap.size w (w.alloc (.cells #[.string q, .string s, .string g, .string p, .string d] 9)) := (Below.refl _ w).alloc (Nat.le_refl _) _
  (mark_any 114 _ [q, s, g, p, d] _ (parts5 w.heap.size q s g p d (HasR.new w 9 _)) (by simp) (by simp [hq, hs, hg, hp, hd]) (hK.below b1 hK.lt)).mono fun _ _ ⟨he, hb⟩ => ⟨he, b1.trans (hb.mono b1.size)⟩
theorem mark_with (q s g p : ByteArray) (w : World) (hq : q.size ≤ 20000) (hs : s.size ≤ 20000) (hg : g.size ≤ 20000) (hp : p.size ≤ 20000) (hK : TabK w) :
    Calls Tryz.prog 30 #[.int .u8 97, .slice (some ⟨w.heap.size, 0, none⟩) 4 4] (w.alloc (.cells #[.string q, .string s, .string g, .string p] 9)) fun e w' => e = .returned (.string (markB 97 [q, s, g, p])) ∧ Below w.heap.size w w' :=
  have b1 : Below w.heap.size w (w.alloc (.cells #[.string q, .string s, .string g, .string p] 9)) := (Below.refl _ w).alloc (Nat.le_refl _) _
  have h := HasR.new w 9 #[.string q, .string s, .string g, .string p]
  (mark_any 97 _ [q, s, g, p] _ (parts4 w.heap.size q s g p h.lt (h.cell 0) (h.cell 1) (h.cell 2) (h.cell 3)) (by simp) (by simp [hq, hs, hg, hp]) (hK.below b1 hK.lt)).mono fun _ _ ⟨he, hb⟩ => ⟨he, b1.trans (hb.mono b1.size)⟩
/-- What a walk sees of the record's own box. -/
theorem rec_cells {w : World} {B : Nat} {r : Rec} (h : HasR w B 74 (recA r)) : w.cell? ⟨B, 0, none⟩ = some (.int .i64 (r.q : Int)) ∧ w.cell? ⟨B, 1, none⟩ = some (.string r.s) ∧ w.cell? ⟨B, 2, none⟩ = some (.int .i64 (r.g : Int)) ∧ w.cell? ⟨B, 3, none⟩ = some (.string r.p) ∧ w.cell? ⟨B, 4, none⟩ = some (.string r.d) :=
  ⟨h.cell 0, h.cell 1, h.cell 2, h.cell 3, h.cell 4⟩
set_option maxRecDepth 100000 in
set_option maxHeartbeats 1000000 in
theorem nonce_any (r : Rec) (w : World) (hf : Fit r) : Calls Tryz.prog 154 #[.agg #[.int .i64 (r.q : Int), .string r.s, .int .i64 (r.g : Int), .string r.p, .string r.d]] w fun e w' => e = .returned (.string (nonceR r)) ∧ Below w.heap.size w w' := by
  have bel : Below w.heap.size w (w.alloc (.cells #[.int .i64 (r.q : Int), .string r.s, .int .i64 (r.g : Int), .string r.p, .string r.d] 74)) := (Below.refl _ w).alloc (Nat.le_refl _) _
  have Q := hide (num_n r.q hf.q (w.alloc (.cells #[.int .i64 (r.q : Int), .string r.s, .int .i64 (r.g : Int), .string r.p, .string r.d] 74)))
  go_enter Tryz.func154, Tryz.ntmps154
  go_wp2_with (go_at_call 91; (with_reducible refine Q.out.mono ?_); rintro e w1 ⟨rfl, hb1⟩; have B1 := hide (bel.trans (hb1.mono bel.size)); clear hb1)
  go_ret
  exact ⟨rfl, B1.out⟩
set_option maxRecDepth 100000 in
set_option maxHeartbeats 1000000 in
theorem with_any (r : Rec) (w : World) (hf : Fit r) (hK : TabK w) : Calls Tryz.prog 155 #[.agg #[.int .i64 (r.q : Int), .string r.s, .int .i64 (r.g : Int), .string r.p, .string r.d]] w fun e w' => e = .returned (.string (withR r)) ∧ Below w.heap.size w w' := by
  have bel : Below w.heap.size w (w.alloc (.cells #[.int .i64 (r.q : Int), .string r.s, .int .i64 (r.g : Int), .string r.p, .string r.d] 74)) := (Below.refl _ w).alloc (Nat.le_refl _) _
  have E0 := hide (HasR.new w 74 (recA r))
  have Q := hide (fun wx => num_n r.q hf.q wx)
  have G := hide (fun wx => num_n r.g hf.g wx)
  have M := hide (fun wx hKx => mark_with (num3 r.q) r.s (num3 r.g) r.p wx (by rw [num3_size]; omega) (Nat.le_trans hf.s (by omega)) (by rw [num3_size]; omega) (Nat.le_trans hf.p (by omega)) hKx)
  have KD := hide (hK.below bel.drew hK.lt)
  have BD := hide bel.drew
  clear hK hf bel
  go_enter Tryz.func155, Tryz.ntmps155
  go_wp2
  go_region_held3 (fun wx => wx.cell? ⟨w.heap.size, 0, none⟩ = some (.int .i64 (r.q : Int)) ∧ wx.cell? ⟨w.heap.size, 1, none⟩ = some (.string r.s) ∧ wx.cell? ⟨w.heap.size, 2, none⟩ = some (.int .i64 (r.g : Int)) ∧ wx.cell? ⟨w.heap.size, 3, none⟩ = some (.string r.p)) (first | (with_reducible exact C3.out) | (with_reducible exact C2.out) | (with_reducible exact C1.out) | go_keep)
    (first
    | (go_at_call 91; (with_reducible refine (Q.out _).mono ?_); rintro e w1 ⟨rfl, hb1⟩; have B1 := hide (BD.out.trans (hb1.mono BD.out.size)); have K1 := hide (KD.out.below hb1 KD.out.lt); have E1 := hide ((E0.out.drew).below hb1 E0.out.drew.lt); have C1 := hide ((rec_cells E1.out).imp id (fun h => h.imp id (fun h => h.imp id (fun h => h.1)))); clear hb1)
    | (go_at_call 91; (with_reducible refine (G.out _).mono ?_); rintro e w2 ⟨rfl, hb2⟩; have B2 := hide (B1.out.trans (hb2.mono B1.out.size)); have K2 := hide (K1.out.below hb2 K1.out.lt); have E2 := hide (E1.out.below hb2 E1.out.lt); have C2 := hide ((rec_cells E2.out).imp id (fun h => h.imp id (fun h => h.imp id (fun h => h.1)))); clear hb2)
    | (go_at_call 30; (with_reducible refine (M.out _ K2.out).mono ?_); rintro e w3 ⟨rfl, hb3⟩; have B3 := hide (B2.out.trans (hb3.mono B2.out.size)); have C3 := hide ((rec_cells (E2.out.below hb3 E2.out.lt)).imp id (fun h => h.imp id (fun h => h.imp id (fun h => h.1)))); clear hb3))
  go_wp2
  go_ret
  exact ⟨rfl, B3.out⟩
set_option maxRecDepth 100000 in
set_option maxHeartbeats 1000000 in
theorem markRec_any (r : Rec) (w : World) (hf : Fit r) (hK : TabK w) : Calls Tryz.prog 58 #[.agg #[.int .i64 (r.q : Int), .string r.s, .int .i64 (r.g : Int), .string r.p, .string r.d]] w fun e w' => e = .returned (.string (markR r)) ∧ Below w.heap.size w w' := by
  have bel : Below w.heap.size w (w.alloc (.cells #[.int .i64 (r.q : Int), .string r.s, .int .i64 (r.g : Int), .string r.p, .string r.d] 74)) := (Below.refl _ w).alloc (Nat.le_refl _) _
  have E0 := hide (HasR.new w 74 (recA r))
  have Q := hide (fun wx => num_n r.q hf.q wx)
  have G := hide (fun wx => num_n r.g hf.g wx)
  have M := hide (fun wx hKx => mark_rec (num3 r.q) r.s (num3 r.g) r.p r.d wx (by rw [num3_size]; omega) (Nat.le_trans hf.s (by omega)) (by rw [num3_size]; omega) (Nat.le_trans hf.p (by omega)) (Nat.le_trans hf.d (by omega)) hKx)
  have KD := hide (hK.below bel.drew hK.lt)
  have BD := hide bel.drew
  clear hK hf bel
  go_enter Tryz.func58, Tryz.ntmps58
  go_wp2
  go_region_held3 (fun wx => wx.cell? ⟨w.heap.size, 0, none⟩ = some (.int .i64 (r.q : Int)) ∧ wx.cell? ⟨w.heap.size, 1, none⟩ = some (.string r.s) ∧ wx.cell? ⟨w.heap.size, 2, none⟩ = some (.int .i64 (r.g : Int)) ∧ wx.cell? ⟨w.heap.size, 3, none⟩ = some (.string r.p) ∧ wx.cell? ⟨w.heap.size, 4, none⟩ = some (.string r.d)) (first | (with_reducible exact C3.out) | (with_reducible exact C2.out) | (with_reducible exact C1.out) | go_keep)
    (first
    | (go_at_call 91; (with_reducible refine (Q.out _).mono ?_); rintro e w1 ⟨rfl, hb1⟩; have B1 := hide (BD.out.trans (hb1.mono BD.out.size)); have K1 := hide (KD.out.below hb1 KD.out.lt); have E1 := hide ((E0.out.drew).below hb1 E0.out.drew.lt); have C1 := hide (rec_cells E1.out); clear hb1)
    | (go_at_call 91; (with_reducible refine (G.out _).mono ?_); rintro e w2 ⟨rfl, hb2⟩; have B2 := hide (B1.out.trans (hb2.mono B1.out.size)); have K2 := hide (K1.out.below hb2 K1.out.lt); have E2 := hide (E1.out.below hb2 E1.out.lt); have C2 := hide (rec_cells E2.out); clear hb2)
    | (go_at_call 30; (with_reducible refine (M.out _ K2.out).mono ?_); rintro e w3 ⟨rfl, hb3⟩; have B3 := hide (B2.out.trans (hb3.mono B2.out.size)); have C3 := hide ((rec_cells (E2.out.below hb3 E2.out.lt))); clear hb3))
  go_wp2
  go_ret
  exact ⟨rfl, B3.out⟩
end Go.Proofs.YtdjpghgnjcmdnaaGreatDoor

/- The document's own Make: a subject's key now, and which one it is. -/
namespace Go.Proofs.YtdjpghgnjcmdnaaGreatDoor
open Go.RowKit Go.Maps
attribute [local go_sem ↓] Go.wp_at_zero Go.wp_at_succ
end Go.Proofs.YtdjpghgnjcmdnaaGreatDoor

/- Forget and Key: the program's own and the document's. -/
namespace Go.Proofs.YtdjpghgnjcmdnaaGreatDoor
open Go.RowKit Go.Maps
attribute [local go_sem ↓] Go.wp_at_zero Go.wp_at_succ
set_option maxRecDepth 100000 in
set_option maxHeartbeats 1000000 in
theorem forget_none (b : Nat) (mo : Option Nat) (sec s : ByteArray) (n : Nat) (σ : Kept) (w : World) (hs : s.size ≤ 60) (hV : ProgV w b mo sec n σ) (hh : (σ s.data.toList).2 = false) :
    Calls Tryz.prog 151 #[.pointer (some ⟨b, 0, none⟩), .string s] w fun e w' => e = .returned (.iface 25 (.int .i64 8)) ∧ Below w.heap.size w w' := by
  have O := hide (of_any b mo sec s n σ w hs hV)
  rw [lastB_none hh] at O
  generalize (σ s.data.toList).1 = a at O
  go_enter Tryz.func151, Tryz.ntmps151
  go_wp2_with (go_at_call 200; (with_reducible refine O.out.mono ?_); rintro e w2 ⟨rfl, hb2⟩)
  go_ret
  exact ⟨rfl, hb2.alloc hb2.size _⟩
set_option maxRecDepth 100000 in
set_option maxHeartbeats 1000000 in
theorem forget_held (b : Nat) (mo : Option Nat) (sec s : ByteArray) (n : Nat) (σ : Kept) (w : World) (hs : s.size ≤ 60) (hn : n < 1000) (hV : ProgV w b mo sec n σ) (hh : (σ s.data.toList).2 = true) :
    Calls Tryz.prog 151 #[.pointer (some ⟨b, 0, none⟩), .string s] w fun e w' => e = .returned .nilIface ∧ Keeps w w' b mo sec (n + 1) (gone σ s.data.toList) := by
  have O := hide (of_any b mo sec s n σ w hs hV)
  rw [lastB_held hh] at O
  have d := text_full (keyB_size sec s (σ s.data.toList).1)
  generalize keyB sec s (σ s.data.toList).1 = k at O d
  have KP := hide (fun wx hVx => keep_any b mo sec s ⟨#[]⟩ (σ s.data.toList).1 n σ (gone σ s.data.toList) wx hs hn hVx (fun D h => h.gone s.data.toList))
  generalize gone σ s.data.toList = σ' at KP
  generalize (σ s.data.toList).1 = a at O KP
  have HV := hide hV
  clear hV
  go_enter Tryz.func151, Tryz.ntmps151
  go_wp2_with (first
    | (go_at_call 200; (with_reducible refine O.out.mono ?_); rintro e w2 ⟨rfl, hb2⟩; have hbX : Below w.heap.size w (w2.alloc (.cells #[.int .i64 (a : Int), .string k] 145)) := (hb2.alloc hb2.size _); have HVX := hide (HV.out.below hbX))
    | (go_at_call 201; (with_reducible refine (KP.out _ HVX.out).mono ?_); rintro e w5 ⟨rfl, hk5⟩))
  go_ret
  exact ⟨rfl, hk5.behind (Stirred.of_below hbX []) (by simp)⟩
end Go.Proofs.YtdjpghgnjcmdnaaGreatDoor

/- A record whose subject is forgotten. -/
namespace Go.Proofs.YtdjpghgnjcmdnaaGreatDoor
open Go.RowKit
attribute [local go_sem ↓] Go.wp_at_zero Go.wp_at_succ
def rec0 : Array Value := #[.int .i64 0, .string ⟨#[]⟩, .int .i64 0, .string ⟨#[]⟩, .string ⟨#[]⟩]
/-- What the vault's call leaves, behind more that turns boxes of the call's own. -/
theorem Keeps.wrap {a w w' w'' : World} {b : Nat} {mo : Option Nat} {sec : ByteArray} {n n0 : Nat} {σ σ0 : Kept} {L : List Nat} (h : Keeps w w' b mo sec n σ) (hV : ProgV a b mo sec n0 σ0) (ha : Below a.heap.size a w) (t : Stirred L w' w'') (hL : ∀ j ∈ L, a.heap.size ≤ j ∧ j < w.heap.size) : Keeps a w'' b mo sec n σ := by
  obtain ⟨m, hp, hm, hs⟩ := h
  have hb := hV.row.lt
  have hsz := ha.size
  have hmL : m ∉ L := fun hmem => by
    have hj := hL m hmem
    rcases hm with e | ⟨_, e⟩
    · obtain ⟨D, ho, _⟩ := hV.held m e
      have := ho.lt
      omega
    · omega
  refine ⟨m, hp.turned t (fun hmem => by have := hL b hmem; omega) (fun m' e => by cases e; exact hmL), ?_, ?_⟩
  · rcases hm with e | ⟨e, e1⟩
    · exact .inl e
    · exact .inr ⟨e, by omega⟩
  · exact ((Stirred.of_below ha _).andThen hs (fun j hj => .inl hj)).andThen t (fun j hj => .inr (hL j hj).1)
theorem HasR.five {w : World} {b : Nat} {t : TypeId} {a0 a1 a2 a3 a4 : Value} (h : HasR w b t #[a0, a1, a2, a3, a4]) (v0 v1 v2 v3 v4 : Value) : HasR (((((w.setCell ⟨b, 0, none⟩ v0).setCell ⟨b, 1, none⟩ v1).setCell ⟨b, 2, none⟩ v2).setCell ⟨b, 3, none⟩ v3).setCell ⟨b, 4, none⟩ v4) b t #[v0, v1, v2, v3, v4] := by
  have := ((((h.set 0 v0).set 1 v1).set 2 v2).set 3 v3).set 4 v4
  exact this
theorem stir5 (w : World) (b : Nat) (v0 v1 v2 v3 v4 : Value) : Stirred [b] w (((((w.setCell ⟨b, 0, none⟩ v0).setCell ⟨b, 1, none⟩ v1).setCell ⟨b, 2, none⟩ v2).setCell ⟨b, 3, none⟩ v3).setCell ⟨b, 4, none⟩ v4) :=
  ((((Stirred.setCell w ⟨b, 0, none⟩ v0).andThen (Stirred.setCell _ ⟨b, 1, none⟩ v1) (fun _ hj => .inl hj)).andThen (Stirred.setCell _ ⟨b, 2, none⟩ v2) (fun _ hj => .inl hj)).andThen (Stirred.setCell _ ⟨b, 3, none⟩ v3) (fun _ hj => .inl hj)).andThen (Stirred.setCell _ ⟨b, 4, none⟩ v4) (fun _ hj => .inl hj)
theorem errNe (n : Int) (w : World) : (binOp .neq 45 (.iface 25 (.int .i64 n)) .nilIface).run Tryz.prog w = .ok (.bool true) w := by kernel_rfl
set_option maxRecDepth 100000 in
set_option maxHeartbeats 1000000 in
theorem forgetF_held (b : Nat) (mo : Option Nat) (sec : ByteArray) (n : Nat) (σ : Kept) (r : Rec) (t : ByteArray) (w : World) (hs : r.s.size ≤ 60) (hn : n < 1000) (hV : ProgV w b mo sec n σ) (hh : (σ r.s.data.toList).2 = true) :
    Calls Tryz.prog 117 #[.pointer (some ⟨b, 0, none⟩), .agg #[.int .i64 (r.q : Int), .string r.s, .int .i64 (r.g : Int), .string r.p, .string r.d], .string t] w fun e w' =>
      e = .returned (.tuple #[.agg #[.int .i64 (r.q : Int), .string r.s, .int .i64 (r.g : Int), .string r.p, .string t], .nilIface]) ∧ Keeps w w' b mo sec (n + 1) (gone σ r.s.data.toList) := by
  have bel : Below w.heap.size w ((w.alloc (.cells (recA r) 74)).alloc (.cells rec0 74)) := ((Below.refl _ w).alloc (Nat.le_refl _) _).alloc (by simp) _
  have F := hide (forget_held b mo sec r.s n σ ((w.alloc (.cells (recA r) 74)).alloc (.cells rec0 74)) hs hn (hV.below bel) hh)
  have E4 := hide ((HasR.new w 74 (recA r)).alloc (.cells rec0 74))
  have E6 := hide (HasR.new (w.alloc (.cells (recA r) 74)) 74 rec0)
  rw [World.size_alloc] at E6
  have hb := hV.row.lt
  have mlt : ∀ m, mo = some m → m < w.heap.size := fun m e => by obtain ⟨D, ho, _⟩ := hV.held m e; exact ho.lt
  have HV := hide hV
  have HM := hide mlt
  have BL := hide bel
  clear hV mlt bel
  unfold recA rec0 at F E4 E6
  go_enter Tryz.func117, Tryz.ntmps117
  go_upto_region 4 with (go_at_call 151; (with_reducible refine F.out.mono ?_); rintro e w3 ⟨rfl, hk⟩; have K3 := hide hk; obtain ⟨m, hp, hm, hst⟩ := hk; have nin : ∀ j, w.heap.size ≤ j → j ∉ b :: mo.toList := (fun j hj hmem => by rcases List.mem_cons.1 hmem with e | e; (have := hb; omega); (have := HM.out j (by simpa using e); omega)); have X4 := hide (E4.out.turned hst (nin _ (Nat.le_refl _))); have X6 := hide (E6.out.turned hst (nin _ (by omega))); clear hp hm hst nin)
  have g4 : w3.cell? ⟨w.heap.size, 4, none⟩ = some (.string r.d) := X4.out.cell 4
  have p4 : w3.frozen? ⟨w.heap.size, 4, none⟩ = false := X4.out.free 4
  go_upto_region 5 with fail
  clear g4 p4
  have Y4 : HasR (w3.setCell ⟨w.heap.size, 4, none⟩ (.string t)) w.heap.size 74 #[.int .i64 (r.q : Int), .string r.s, .int .i64 (r.g : Int), .string r.p, .string t] := by
    have := X4.out.set 4 (.string t)
    exact this
  have T4 := Stirred.setCell w3 ⟨w.heap.size, 4, none⟩ (.string t)
  have Y6 := hide (X6.out.turned T4 (by simp))
  have S4 := hide T4
  clear T4 X4 X6
  generalize w3.setCell ⟨w.heap.size, 4, none⟩ (.string t) = w4 at Y4 Y6 S4 ⊢
  have c0 : w4.cell? ⟨w.heap.size, 0, none⟩ = some (.int .i64 (r.q : Int)) := Y4.cell 0
  have c1 : w4.cell? ⟨w.heap.size, 1, none⟩ = some (.string r.s) := Y4.cell 1
  have c2 : w4.cell? ⟨w.heap.size, 2, none⟩ = some (.int .i64 (r.g : Int)) := Y4.cell 2
  have c3 : w4.cell? ⟨w.heap.size, 3, none⟩ = some (.string r.p) := Y4.cell 3
  have c4 : w4.cell? ⟨w.heap.size, 4, none⟩ = some (.string t) := Y4.cell 4
  have d0 : w4.cell? ⟨w.heap.size + 1, 0, none⟩ = some (.int .i64 0) := Y6.out.cell 0
  have d1 : w4.cell? ⟨w.heap.size + 1, 1, none⟩ = some (.string ⟨#[]⟩) := Y6.out.cell 1
  have d2 : w4.cell? ⟨w.heap.size + 1, 2, none⟩ = some (.int .i64 0) := Y6.out.cell 2
  have d3 : w4.cell? ⟨w.heap.size + 1, 3, none⟩ = some (.string ⟨#[]⟩) := Y6.out.cell 3
  have d4 : w4.cell? ⟨w.heap.size + 1, 4, none⟩ = some (.string ⟨#[]⟩) := Y6.out.cell 4
  have e0 : w4.frozen? ⟨w.heap.size + 1, 0, none⟩ = false := Y6.out.free 0
  have e1 : w4.frozen? ⟨w.heap.size + 1, 1, none⟩ = false := Y6.out.free 1
  have e2 : w4.frozen? ⟨w.heap.size + 1, 2, none⟩ = false := Y6.out.free 2
  have e3 : w4.frozen? ⟨w.heap.size + 1, 3, none⟩ = false := Y6.out.free 3
  have e4 : w4.frozen? ⟨w.heap.size + 1, 4, none⟩ = false := Y6.out.free 4
  clear Y4
  go_wp2
  have XF := HasR.five Y6.out (.int .i64 (r.q : Int)) (.string r.s) (.int .i64 (r.g : Int)) (.string r.p) (.string t)
  have TF := stir5 w4 (w.heap.size + 1) (.int .i64 (r.q : Int)) (.string r.s) (.int .i64 (r.g : Int)) (.string r.p) (.string t)
  generalize ((((w4.setCell ⟨w.heap.size + 1, 0, none⟩ (.int .i64 (r.q : Int))).setCell ⟨w.heap.size + 1, 1, none⟩ (.string r.s)).setCell ⟨w.heap.size + 1, 2, none⟩ (.int .i64 (r.g : Int))).setCell ⟨w.heap.size + 1, 3, none⟩ (.string r.p)).setCell ⟨w.heap.size + 1, 4, none⟩ (.string t) = wf at XF TF ⊢
  have z0 : wf.cell? ⟨w.heap.size + 1, 0, none⟩ = some (.int .i64 (r.q : Int)) := XF.cell 0
  have z1 : wf.cell? ⟨w.heap.size + 1, 1, none⟩ = some (.string r.s) := XF.cell 1
  have z2 : wf.cell? ⟨w.heap.size + 1, 2, none⟩ = some (.int .i64 (r.g : Int)) := XF.cell 2
  have z3 : wf.cell? ⟨w.heap.size + 1, 3, none⟩ = some (.string r.p) := XF.cell 3
  have z4 : wf.cell? ⟨w.heap.size + 1, 4, none⟩ = some (.string t) := XF.cell 4
  have TT : Stirred [w.heap.size, w.heap.size + 1] w3 wf := (S4.out.mono (by simp)).andThen (TF.mono (fun j hj => by simp at hj; simp [hj])) (fun j hj => .inl hj)
  refine bodyPost_ret (v := .tuple #[.agg #[.int .i64 (r.q : Int), .string r.s, .int .i64 (r.g : Int), .string r.p, .string t], .nilIface]) (by simp [results, Tryz.results117, go_sem, z0, z1, z2, z3, z4]) rfl ⟨rfl, K3.out.wrap HV.out BL.out TT (fun j hj => by simp at hj; simp; omega)⟩
set_option maxRecDepth 100000 in
set_option maxHeartbeats 1000000 in
theorem forgetF_none (b : Nat) (mo : Option Nat) (sec : ByteArray) (n : Nat) (σ : Kept) (r : Rec) (t : ByteArray) (w : World) (hs : r.s.size ≤ 60) (hV : ProgV w b mo sec n σ) (hh : (σ r.s.data.toList).2 = false) :
    Calls Tryz.prog 117 #[.pointer (some ⟨b, 0, none⟩), .agg #[.int .i64 (r.q : Int), .string r.s, .int .i64 (r.g : Int), .string r.p, .string r.d], .string t] w fun e w' =>
      e = .returned (.tuple #[.agg #[.int .i64 0, .string ⟨#[]⟩, .int .i64 0, .string ⟨#[]⟩, .string ⟨#[]⟩], .iface 25 (.int .i64 8)]) ∧ Below w.heap.size w w' := by
  have bel : Below w.heap.size w ((w.alloc (.cells (recA r) 74)).alloc (.cells rec0 74)) := ((Below.refl _ w).alloc (Nat.le_refl _) _).alloc (by simp) _
  have F := hide (forget_none b mo sec r.s n σ ((w.alloc (.cells (recA r) 74)).alloc (.cells rec0 74)) hs (hV.below bel) hh)
  have E6 := hide (HasR.new (w.alloc (.cells (recA r) 74)) 74 rec0)
  rw [World.size_alloc] at E6
  have BL := hide bel
  have hne := errNe
  clear hV bel
  unfold recA rec0 at F E6 BL
  go_enter Tryz.func117, Tryz.ntmps117
  go_upto_region 3 with (go_at_call 151; (with_reducible refine F.out.mono ?_); rintro e w3 ⟨rfl, hb3⟩; have B3 := hide (BL.out.trans (hb3.mono BL.out.size)); have X6 := hide (E6.out.below hb3 E6.out.lt); clear hb3)
  have d0 : w3.cell? ⟨w.heap.size + 1, 0, none⟩ = some (.int .i64 0) := X6.out.cell 0
  have d1 : w3.cell? ⟨w.heap.size + 1, 1, none⟩ = some (.string ⟨#[]⟩) := X6.out.cell 1
  have d2 : w3.cell? ⟨w.heap.size + 1, 2, none⟩ = some (.int .i64 0) := X6.out.cell 2
  have d3 : w3.cell? ⟨w.heap.size + 1, 3, none⟩ = some (.string ⟨#[]⟩) := X6.out.cell 3
  have d4 : w3.cell? ⟨w.heap.size + 1, 4, none⟩ = some (.string ⟨#[]⟩) := X6.out.cell 4
  have e0 : w3.frozen? ⟨w.heap.size + 1, 0, none⟩ = false := X6.out.free 0
  have e1 : w3.frozen? ⟨w.heap.size + 1, 1, none⟩ = false := X6.out.free 1
  have e2 : w3.frozen? ⟨w.heap.size + 1, 2, none⟩ = false := X6.out.free 2
  have e3 : w3.frozen? ⟨w.heap.size + 1, 3, none⟩ = false := X6.out.free 3
  have e4 : w3.frozen? ⟨w.heap.size + 1, 4, none⟩ = false := X6.out.free 4
  go_wp2
  have XF := HasR.five X6.out (.int .i64 0) (.string ⟨#[]⟩) (.int .i64 0) (.string ⟨#[]⟩) (.string ⟨#[]⟩)
  have TF := stir5 w3 (w.heap.size + 1) (.int .i64 0) (.string ⟨#[]⟩) (.int .i64 0) (.string ⟨#[]⟩) (.string ⟨#[]⟩)
  generalize ((((w3.setCell ⟨w.heap.size + 1, 0, none⟩ (.int .i64 0)).setCell ⟨w.heap.size + 1, 1, none⟩ (.string ⟨#[]⟩)).setCell ⟨w.heap.size + 1, 2, none⟩ (.int .i64 0)).setCell ⟨w.heap.size + 1, 3, none⟩ (.string ⟨#[]⟩)).setCell ⟨w.heap.size + 1, 4, none⟩ (.string ⟨#[]⟩) = wf at XF TF ⊢
  have z0 : wf.cell? ⟨w.heap.size + 1, 0, none⟩ = some (.int .i64 0) := XF.cell 0
  have z1 : wf.cell? ⟨w.heap.size + 1, 1, none⟩ = some (.string ⟨#[]⟩) := XF.cell 1
  have z2 : wf.cell? ⟨w.heap.size + 1, 2, none⟩ = some (.int .i64 0) := XF.cell 2
  have z3 : wf.cell? ⟨w.heap.size + 1, 3, none⟩ = some (.string ⟨#[]⟩) := XF.cell 3
  have z4 : wf.cell? ⟨w.heap.size + 1, 4, none⟩ = some (.string ⟨#[]⟩) := XF.cell 4
  refine bodyPost_ret (v := .tuple #[.agg #[.int .i64 0, .string ⟨#[]⟩, .int .i64 0, .string ⟨#[]⟩, .string ⟨#[]⟩], .iface 25 (.int .i64 8)]) (by simp [results, Tryz.results117, go_sem, z0, z1, z2, z3, z4]) rfl ⟨rfl, B3.out.trans (TF.below B3.out.size (fun j hj => by simp at hj; omega))⟩
end Go.Proofs.YtdjpghgnjcmdnaaGreatDoor
