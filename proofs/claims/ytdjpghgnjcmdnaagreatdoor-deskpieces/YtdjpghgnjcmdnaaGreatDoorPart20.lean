/- Texts of this proof, one behind the other. -/
import Derived.Deep.DeepCutAuto
import Derived.Test.YtdjpghgnjcmdnaaGreatDoorPart19
/- What a source refuses ahead of telling it. -/
namespace Go.Proofs.YtdjpghgnjcmdnaaGreatDoor
open Go.RowKit
attribute [local go_sem ↓] Go.wp_at_zero Go.wp_at_succ
/-- A Put of another one's row; a Del of a row that is not there, or another one's. -/
def refuseB (τ : Tab) (e : Ev) : Int := if (decide (e.k = 1) && ((τ e.t e.r).isSome && !ownB (τ e.t e.r) e.s)) = true then 13 else if (decide (e.k = 2) && !ownB (τ e.t e.r) e.s) = true then 7 else 0
def errV (n : Int) : Value := if n = 0 then .nilIface else .iface 25 (.int .i64 n)
theorem errEq (n : Int) (w : World) : (binOp .eql 45 (.iface 25 (.int .i64 n)) .nilIface).run Tryz.prog w = .ok (.bool false) w := by kernel_rfl
theorem nilEq (w : World) : (binOp .eql 45 .nilIface .nilIface).run Tryz.prog w = .ok (.bool true) w := by kernel_rfl
theorem HasR.four4 {w : World} {b : Nat} {t : TypeId} {a0 a1 a2 a3 : Value} (h : HasR w b t #[a0, a1, a2, a3]) (v0 v1 v2 v3 : Value) : HasR ((((w.setCell ⟨b, 0, none⟩ v0).setCell ⟨b, 1, none⟩ v1).setCell ⟨b, 2, none⟩ v2).setCell ⟨b, 3, none⟩ v3) b t #[v0, v1, v2, v3] := by
  have := (((h.set 0 v0).set 1 v1).set 2 v2).set 3 v3
  exact this
theorem stirF (w : World) (b : Nat) (v0 v1 v2 v3 : Value) : Stirred [b] w ((((w.setCell ⟨b, 0, none⟩ v0).setCell ⟨b, 1, none⟩ v1).setCell ⟨b, 2, none⟩ v2).setCell ⟨b, 3, none⟩ v3) :=
  (((Stirred.setCell w ⟨b, 0, none⟩ v0).andThen (Stirred.setCell _ ⟨b, 1, none⟩ v1) (fun _ hj => .inl hj)).andThen (Stirred.setCell _ ⟨b, 2, none⟩ v2) (fun _ hj => .inl hj)).andThen (Stirred.setCell _ ⟨b, 3, none⟩ v3) (fun _ hj => .inl hj)
set_option maxRecDepth 100000 in
set_option maxHeartbeats 4000000 in
theorem refuse_any (sb : Nat) (p0 p1 : Value) (mt : Option Nat) (n : Nat) (τ : Tab) (e : Ev) (w : World) (he : Brief e) (hV : TabV w sb 112 #[p0, p1] mt n τ) :
    Calls Tryz.prog 77 #[.pointer (some ⟨sb, 0, none⟩), .agg #[.int .i64 e.k, .string e.s, .string e.t, .string e.r, .string e.v]] w fun x w' => x = .returned (errV (refuseB τ e)) ∧ Below w.heap.size w w' := by
  have bel : Below w.heap.size w (w.alloc (.cells #[.int .i64 e.k, .string e.s, .string e.t, .string e.r, .string e.v] 69)) := (Below.refl _ w).alloc (Nat.le_refl _) _
  have E3 := hide (HasR.new w 69 #[.int .i64 e.k, .string e.s, .string e.t, .string e.r, .string e.v])
  have hsb := hV.row.lt
  have GE0 : ∀ wx, Below w.heap.size w wx → Calls Tryz.prog 115 #[.pointer (some ⟨sb, 2, none⟩), .string e.t, .string e.r] wx fun x w' => x = .returned (getV τ e.t e.r) ∧ Below wx.heap.size wx w' := fun wx hb => get_any sb 112 #[p0, p1] mt e.t e.r n τ wx he.t he.r (hV.below hb)
  unfold getV at GE0
  have BL := hide bel
  have hq := errEq
  have hq2 := nilEq
  have HR : Hid (refuseB τ e = if (decide (e.k = 1) && ((τ e.t e.r).isSome && !ownB (τ e.t e.r) e.s)) = true then 13 else if (decide (e.k = 2) && !ownB (τ e.t e.r) e.s) = true then 7 else 0) := rfl
  generalize refuseB τ e = R at HR ⊢
  obtain ⟨x, hx⟩ : ∃ x, x = atC τ e.t e.r := ⟨_, rfl⟩
  rw [← hx] at GE0
  obtain ⟨th, hth⟩ : ∃ th, th = (τ e.t e.r).isSome := ⟨_, rfl⟩
  rw [← hth] at GE0 HR
  have hown : ownB (τ e.t e.r) e.s = (th && decide (x.s = e.s)) := by
    cases hy : τ e.t e.r with
    | none => rw [hth, hy]; rfl
    | some y => rw [hth, hx, hy, atC_some (s := y.1) (v := y.2) (by rw [hy]), ownB]; simp
  rw [hown] at HR
  have q1 := same_bytes x.s e.s
  generalize decide (x.s = e.s) = ob at q1 HR
  have GE := hide GE0
  clear hV GE0 hx hth hown bel
  cases th with
  | false =>
    go_enter Tryz.func77, Tryz.ntmps77
    go_upto_region 1 with fail
    have y2 : (w.alloc (.cells #[.int .i64 e.k, .string e.s, .string e.t, .string e.r, .string e.v] 69)).cell? ⟨w.heap.size, 2, none⟩ = some (.string e.t) := E3.out.cell 2
    have y3 : (w.alloc (.cells #[.int .i64 e.k, .string e.s, .string e.t, .string e.r, .string e.v] 69)).cell? ⟨w.heap.size, 3, none⟩ = some (.string e.r) := E3.out.cell 3
    generalize w.alloc (.cells #[.int .i64 e.k, .string e.s, .string e.t, .string e.r, .string e.v] 69) = wb at E3 BL y2 y3 ⊢
    have hwb := E3.out.lt
    have ne1 : wb.heap.size ≠ w.heap.size := by omega
    have ne2 : w.heap.size ≠ wb.heap.size := by omega
    go_cut [5, 6] (fun s5 s6 wx => ∃ B5 : Nat, s5 = .pointer (some ⟨B5, 0, none⟩) ∧ s6 = .iface 25 (.int .i64 7) ∧ HasR wx B5 129 #[.string x.t, .string x.r, .string x.s, .string x.v] ∧ HasR wx w.heap.size 69 #[.int .i64 e.k, .string e.s, .string e.t, .string e.r, .string e.v] ∧ Below w.heap.size w wx)
    case first =>
      go_region_held3 (fun wx => wx.cell? ⟨w.heap.size, 2, none⟩ = some (.string e.t) ∧ wx.cell? ⟨w.heap.size, 3, none⟩ = some (.string e.r)) (first | (with_reducible exact K2.out) | go_keep)
        (first
        | (go_at_call 115; (with_reducible refine (GE.out _ BL.out.drew).mono ?_); rintro z w2 ⟨rfl, hb2⟩; have B2 := hide (BL.out.drew.trans (hb2.mono BL.out.drew.size)); have H3 := hide (E3.out.drew.below hb2 E3.out.drew.lt); have K2 := hide (⟨H3.out.cell 2, H3.out.cell 3⟩ : w2.cell? ⟨w.heap.size, 2, none⟩ = some (.string e.t) ∧ w2.cell? ⟨w.heap.size, 3, none⟩ = some (.string e.r)); have k2 : w2.cell? ⟨w.heap.size, 2, none⟩ = some (.string e.t) := H3.out.cell 2; have k3 : w2.cell? ⟨w.heap.size, 3, none⟩ = some (.string e.r) := H3.out.cell 3; have lt2 := H3.out.lt; have ne3 : w2.heap.size ≠ w.heap.size := (by omega); have ne4 : w.heap.size ≠ w2.heap.size := (by omega); clear hb2)
        | (go_at_call 115; (with_reducible refine (GE.out _ (BL.out.alloc BL.out.size _).drew).mono ?_); rintro z w2 ⟨rfl, hb2⟩; have X5 := hide ((HasR.new wb 129 #[.string ⟨#[]⟩, .string ⟨#[]⟩, .string ⟨#[]⟩, .string ⟨#[]⟩]).drew.below hb2 (HasR.new wb 129 _).drew.lt); have B2 := hide ((BL.out.alloc BL.out.size (.cells #[.string ⟨#[]⟩, .string ⟨#[]⟩, .string ⟨#[]⟩, .string ⟨#[]⟩] 129)).drew.trans (hb2.mono (BL.out.alloc BL.out.size (.cells #[.string ⟨#[]⟩, .string ⟨#[]⟩, .string ⟨#[]⟩, .string ⟨#[]⟩] 129)).drew.size)); have H3 := hide ((E3.out.alloc (.cells #[.string ⟨#[]⟩, .string ⟨#[]⟩, .string ⟨#[]⟩, .string ⟨#[]⟩] 129)).drew.below hb2 (E3.out.alloc (.cells #[.string ⟨#[]⟩, .string ⟨#[]⟩, .string ⟨#[]⟩, .string ⟨#[]⟩] 129)).drew.lt); have K2 := hide (⟨H3.out.cell 2, H3.out.cell 3⟩ : w2.cell? ⟨w.heap.size, 2, none⟩ = some (.string e.t) ∧ w2.cell? ⟨w.heap.size, 3, none⟩ = some (.string e.r)); have k2 : w2.cell? ⟨w.heap.size, 2, none⟩ = some (.string e.t) := H3.out.cell 2; have k3 : w2.cell? ⟨w.heap.size, 3, none⟩ = some (.string e.r) := H3.out.cell 3; have lt2 := H3.out.lt; have z0 : w2.cell? ⟨wb.heap.size, 0, none⟩ = some (.string ⟨#[]⟩) := X5.out.cell 0; have z1 : w2.cell? ⟨wb.heap.size, 1, none⟩ = some (.string ⟨#[]⟩) := X5.out.cell 1; have z2 : w2.cell? ⟨wb.heap.size, 2, none⟩ = some (.string ⟨#[]⟩) := X5.out.cell 2; have z3 : w2.cell? ⟨wb.heap.size, 3, none⟩ = some (.string ⟨#[]⟩) := X5.out.cell 3; have o0 : w2.frozen? ⟨wb.heap.size, 0, none⟩ = false := X5.out.free 0; have o1 : w2.frozen? ⟨wb.heap.size, 1, none⟩ = false := X5.out.free 1; have o2 : w2.frozen? ⟨wb.heap.size, 2, none⟩ = false := X5.out.free 2; have o3 : w2.frozen? ⟨wb.heap.size, 3, none⟩ = false := X5.out.free 3; clear hb2))
      all_goals
        go_wp2
        go_meet
        first
          | exact ⟨wb.heap.size, rfl, rfl, HasR.four4 X5.out _ _ _ _, H3.out.turned (stirF w2 wb.heap.size _ _ _ _) (by simp; omega), B2.out.trans ((stirF w2 wb.heap.size _ _ _ _).below B2.out.size (fun j hj => by simp at hj; omega))⟩
          | exact ⟨w2.heap.size, rfl, rfl, HasR.new w2 129 _, H3.out.alloc _, B2.out.alloc B2.out.size _⟩
    case rest =>
      obtain ⟨B5, rfl, rfl, hX, hE, hB⟩ := hcut
      have BB := hide hB
      have c0 : wc.cell? ⟨B5, 0, none⟩ = some (.string x.t) := hX.cell 0
      have c1 : wc.cell? ⟨B5, 1, none⟩ = some (.string x.r) := hX.cell 1
      have c2 : wc.cell? ⟨B5, 2, none⟩ = some (.string x.s) := hX.cell 2
      have c3 : wc.cell? ⟨B5, 3, none⟩ = some (.string x.v) := hX.cell 3
      have g0 : wc.cell? ⟨w.heap.size, 0, none⟩ = some (.int .i64 e.k) := hE.cell 0
      have g1 : wc.cell? ⟨w.heap.size, 1, none⟩ = some (.string e.s) := hE.cell 1
      clear hX hE hB y2 y3 ne1 ne2 GE
      by_cases hk1 : e.k = 1
      · cases ob
        all_goals
          go_wp2
          go_ret
          exact ⟨by rw [HR.out, hk1]; rfl, BB.out⟩
      · by_cases hk2 : e.k = 2
        · cases ob
          all_goals
            go_wp2
            go_ret
            exact ⟨by rw [HR.out, hk2]; rfl, BB.out⟩
        · cases ob
          all_goals
            go_wp2
            go_ret
            exact ⟨by rw [HR.out, decide_eq_false hk1, decide_eq_false hk2]; rfl, BB.out⟩
  | true =>
    go_enter Tryz.func77, Tryz.ntmps77
    go_upto_region 1 with fail
    have y2 : (w.alloc (.cells #[.int .i64 e.k, .string e.s, .string e.t, .string e.r, .string e.v] 69)).cell? ⟨w.heap.size, 2, none⟩ = some (.string e.t) := E3.out.cell 2
    have y3 : (w.alloc (.cells #[.int .i64 e.k, .string e.s, .string e.t, .string e.r, .string e.v] 69)).cell? ⟨w.heap.size, 3, none⟩ = some (.string e.r) := E3.out.cell 3
    generalize w.alloc (.cells #[.int .i64 e.k, .string e.s, .string e.t, .string e.r, .string e.v] 69) = wb at E3 BL y2 y3 ⊢
    have hwb := E3.out.lt
    have ne1 : wb.heap.size ≠ w.heap.size := by omega
    have ne2 : w.heap.size ≠ wb.heap.size := by omega
    go_cut [5, 6] (fun s5 s6 wx => ∃ B5 : Nat, s5 = .pointer (some ⟨B5, 0, none⟩) ∧ s6 = .nilIface ∧ HasR wx B5 129 #[.string x.t, .string x.r, .string x.s, .string x.v] ∧ HasR wx w.heap.size 69 #[.int .i64 e.k, .string e.s, .string e.t, .string e.r, .string e.v] ∧ Below w.heap.size w wx)
    case first =>
      go_region_held3 (fun wx => wx.cell? ⟨w.heap.size, 2, none⟩ = some (.string e.t) ∧ wx.cell? ⟨w.heap.size, 3, none⟩ = some (.string e.r)) (first | (with_reducible exact K2.out) | go_keep)
        (first
        | (go_at_call 115; (with_reducible refine (GE.out _ BL.out.drew).mono ?_); rintro z w2 ⟨rfl, hb2⟩; have B2 := hide (BL.out.drew.trans (hb2.mono BL.out.drew.size)); have H3 := hide (E3.out.drew.below hb2 E3.out.drew.lt); have K2 := hide (⟨H3.out.cell 2, H3.out.cell 3⟩ : w2.cell? ⟨w.heap.size, 2, none⟩ = some (.string e.t) ∧ w2.cell? ⟨w.heap.size, 3, none⟩ = some (.string e.r)); have k2 : w2.cell? ⟨w.heap.size, 2, none⟩ = some (.string e.t) := H3.out.cell 2; have k3 : w2.cell? ⟨w.heap.size, 3, none⟩ = some (.string e.r) := H3.out.cell 3; have lt2 := H3.out.lt; have ne3 : w2.heap.size ≠ w.heap.size := (by omega); have ne4 : w.heap.size ≠ w2.heap.size := (by omega); clear hb2)
        | (go_at_call 115; (with_reducible refine (GE.out _ (BL.out.alloc BL.out.size _).drew).mono ?_); rintro z w2 ⟨rfl, hb2⟩; have X5 := hide ((HasR.new wb 129 #[.string ⟨#[]⟩, .string ⟨#[]⟩, .string ⟨#[]⟩, .string ⟨#[]⟩]).drew.below hb2 (HasR.new wb 129 _).drew.lt); have B2 := hide ((BL.out.alloc BL.out.size (.cells #[.string ⟨#[]⟩, .string ⟨#[]⟩, .string ⟨#[]⟩, .string ⟨#[]⟩] 129)).drew.trans (hb2.mono (BL.out.alloc BL.out.size (.cells #[.string ⟨#[]⟩, .string ⟨#[]⟩, .string ⟨#[]⟩, .string ⟨#[]⟩] 129)).drew.size)); have H3 := hide ((E3.out.alloc (.cells #[.string ⟨#[]⟩, .string ⟨#[]⟩, .string ⟨#[]⟩, .string ⟨#[]⟩] 129)).drew.below hb2 (E3.out.alloc (.cells #[.string ⟨#[]⟩, .string ⟨#[]⟩, .string ⟨#[]⟩, .string ⟨#[]⟩] 129)).drew.lt); have K2 := hide (⟨H3.out.cell 2, H3.out.cell 3⟩ : w2.cell? ⟨w.heap.size, 2, none⟩ = some (.string e.t) ∧ w2.cell? ⟨w.heap.size, 3, none⟩ = some (.string e.r)); have k2 : w2.cell? ⟨w.heap.size, 2, none⟩ = some (.string e.t) := H3.out.cell 2; have k3 : w2.cell? ⟨w.heap.size, 3, none⟩ = some (.string e.r) := H3.out.cell 3; have lt2 := H3.out.lt; have z0 : w2.cell? ⟨wb.heap.size, 0, none⟩ = some (.string ⟨#[]⟩) := X5.out.cell 0; have z1 : w2.cell? ⟨wb.heap.size, 1, none⟩ = some (.string ⟨#[]⟩) := X5.out.cell 1; have z2 : w2.cell? ⟨wb.heap.size, 2, none⟩ = some (.string ⟨#[]⟩) := X5.out.cell 2; have z3 : w2.cell? ⟨wb.heap.size, 3, none⟩ = some (.string ⟨#[]⟩) := X5.out.cell 3; have o0 : w2.frozen? ⟨wb.heap.size, 0, none⟩ = false := X5.out.free 0; have o1 : w2.frozen? ⟨wb.heap.size, 1, none⟩ = false := X5.out.free 1; have o2 : w2.frozen? ⟨wb.heap.size, 2, none⟩ = false := X5.out.free 2; have o3 : w2.frozen? ⟨wb.heap.size, 3, none⟩ = false := X5.out.free 3; clear hb2))
      all_goals
        go_wp2
        go_meet
        first
          | exact ⟨wb.heap.size, rfl, rfl, HasR.four4 X5.out _ _ _ _, H3.out.turned (stirF w2 wb.heap.size _ _ _ _) (by simp; omega), B2.out.trans ((stirF w2 wb.heap.size _ _ _ _).below B2.out.size (fun j hj => by simp at hj; omega))⟩
          | exact ⟨w2.heap.size, rfl, rfl, HasR.new w2 129 _, H3.out.alloc _, B2.out.alloc B2.out.size _⟩
    case rest =>
      obtain ⟨B5, rfl, rfl, hX, hE, hB⟩ := hcut
      have BB := hide hB
      have c0 : wc.cell? ⟨B5, 0, none⟩ = some (.string x.t) := hX.cell 0
      have c1 : wc.cell? ⟨B5, 1, none⟩ = some (.string x.r) := hX.cell 1
      have c2 : wc.cell? ⟨B5, 2, none⟩ = some (.string x.s) := hX.cell 2
      have c3 : wc.cell? ⟨B5, 3, none⟩ = some (.string x.v) := hX.cell 3
      have g0 : wc.cell? ⟨w.heap.size, 0, none⟩ = some (.int .i64 e.k) := hE.cell 0
      have g1 : wc.cell? ⟨w.heap.size, 1, none⟩ = some (.string e.s) := hE.cell 1
      clear hX hE hB y2 y3 ne1 ne2 GE
      by_cases hk1 : e.k = 1
      · cases ob
        all_goals
          go_wp2
          go_ret
          exact ⟨by rw [HR.out, hk1]; rfl, BB.out⟩
      · by_cases hk2 : e.k = 2
        · cases ob
          all_goals
            go_wp2
            go_ret
            exact ⟨by rw [HR.out, hk2]; rfl, BB.out⟩
        · cases ob
          all_goals
            go_wp2
            go_ret
            exact ⟨by rw [HR.out, decide_eq_false hk1, decide_eq_false hk2]; rfl, BB.out⟩
end Go.Proofs.YtdjpghgnjcmdnaaGreatDoor

/- What is sealed is opened, as plain mathematics of bytes and as the program's calls; the law's own fact. -/
namespace Go.Proofs.YtdjpghgnjcmdnaaGreatDoor
open Go.RowKit
attribute [local go_sem ↓] Go.wp_at_zero Go.wp_at_succ
theorem xorL_len (key nonce l : List UInt8) : (xorL key nonce l).length = l.length := xorTo_len _ _ _ _
theorem xorL_at (key nonce l : List UInt8) (i : Nat) (h : i < l.length) : (xorL key nonce l).getD i 0 = l.getD i 0 ^^^ keyAt key nonce i := by
  unfold xorL xorTo
  simp [h]
theorem u8_cancel (x k : UInt8) : x ^^^ k ^^^ k = x := by
  rw [UInt8.xor_assoc, UInt8.xor_self, UInt8.xor_zero]
theorem xorL_twice (key nonce l : List UInt8) : xorL key nonce (xorL key nonce l) = l := by
  apply List.ext_getElem
  · rw [xorL_len, xorL_len]
  · intro i h1 h2
    have e1 := xorL_at key nonce (xorL key nonce l) i (by rw [xorL_len]; exact h2)
    rw [xorL_at key nonce l i h2, u8_cancel] at e1
    simpa [List.getD_eq_getElem?_getD, h1, h2] using e1
theorem xorB_twice (key nonce s : ByteArray) : xorB key nonce (xorB key nonce s) = s := by
  show (⟨(xorL key.data.toList nonce.data.toList (xorL key.data.toList nonce.data.toList s.data.toList)).toArray⟩ : ByteArray) = s
  rw [xorL_twice]
/-- What a text is sealed as. -/
def sealB (key nonce wi s : ByteArray) : ByteArray := tagB key nonce wi (xorB key nonce s) ++ xorB key nonce s
theorem sealB_size (key nonce wi s : ByteArray) : (sealB key nonce wi s).size = 16 + s.size := by
  unfold sealB
  rw [ByteArray.size_append, tagB_size, xorB_size]
theorem sealB_head (key nonce wi s : ByteArray) : (sealB key nonce wi s).extract 0 16 = tagB key nonce wi (xorB key nonce s) := app_head _ _ (tagB_size _ _ _ _)
theorem sealB_rest (key nonce wi s : ByteArray) : (sealB key nonce wi s).extract 16 (sealB key nonce wi s).size = xorB key nonce s := app_rest _ _ (tagB_size _ _ _ _)
theorem open_back (key nonce wi s : ByteArray) (w : World) (h : s.size ≤ 400) (hk : key.size = 32) (hn : nonce.size = 12) (hw : wi.size ≤ 20000) (hK : TabK w) :
    Calls Tryz.prog 210 #[.string key, .string nonce, .string wi, .string (sealB key nonce wi s)] w fun e w' => e = .returned (.tuple #[.string s, .nilIface]) ∧ Below w.heap.size w w' := by
  have q := open_ok key nonce wi (sealB key nonce wi s) w hk hn hw (by rw [sealB_size]; omega) (by rw [sealB_size]; omega) hK (by rw [sealB_head, sealB_rest])
  rw [sealB_rest, xorB_twice] at q
  exact q
/-- What was opened was sealed just so. -/
theorem seal_back (key nonce wi s : ByteArray) (w : World) (hk : key.size = 32) (hn : nonce.size = 12) (hw : wi.size ≤ 20000) (h0 : 16 ≤ s.size) (h1 : s.size ≤ 416) (hK : TabK w) (ht : s.extract 0 16 = tagB key nonce wi (s.extract 16 s.size)) :
    Calls Tryz.prog 153 #[.string key, .string nonce, .string wi, .string (xorB key nonce (s.extract 16 s.size))] w fun e w' => e = .returned (.tuple #[.string s, .nilIface]) ∧ Below w.heap.size w w' := by
  have q := seal_ok key nonce wi (xorB key nonce (s.extract 16 s.size)) w (by rw [xorB_size, ByteArray.size_extract]; omega) hk hn hw hK
  rw [xorB_twice, ← ht, head_rest] at q
  exact q
end Go.Proofs.YtdjpghgnjcmdnaaGreatDoor

/- A record whose text is sealed by its subject's key. -/
namespace Go.Proofs.YtdjpghgnjcmdnaaGreatDoor
open Go.RowKit
attribute [local go_sem ↓] Go.wp_at_zero Go.wp_at_succ
/-- The record of an event that is sealed. -/
def genR (σ : Kept) (s : ByteArray) : Nat := (made σ s.data.toList s.data.toList).1
def sealR (sec : ByteArray) (σ : Kept) (r : Rec) (t : ByteArray) : Rec :=
  { r with g := genR σ r.s, d := sealB (keyB sec r.s (genR σ r.s)) (nonceR r) (withR { r with g := genR σ r.s }) t }
theorem nilNe (w : World) : (binOp .neq 45 .nilIface .nilIface).run Tryz.prog w = .ok (.bool false) w := by kernel_rfl
set_option maxRecDepth 100000 in
set_option maxHeartbeats 4000000 in
theorem sealF_any (b : Nat) (mo : Option Nat) (sec : ByteArray) (n : Nat) (σ : Kept) (r : Rec) (t : ByteArray) (w : World) (hp : sec.size ≤ 60) (hf : Fit r) (hn : n < 1000) (hσ : (σ r.s.data.toList).1 ≤ n) (hN : nameB r.s.data.toList = true) (hK : TabK w) (hKS : ∀ w', Stirred (b :: mo.toList) w w' → TabK w') (ht : t.size ≤ 400) (hV : ProgV w b mo sec n σ) :
    Calls Tryz.prog 118 #[.pointer (some ⟨b, 0, none⟩), .agg #[.int .i64 (r.q : Int), .string r.s, .int .i64 (r.g : Int), .string r.p, .string r.d], .string t] w fun e w' =>
      e = .returned (.tuple #[.agg #[.int .i64 ((sealR sec σ r t).q : Int), .string (sealR sec σ r t).s, .int .i64 ((sealR sec σ r t).g : Int), .string (sealR sec σ r t).p, .string (sealR sec σ r t).d], .nilIface]) ∧ Keeps w w' b mo sec (n + 1) (made σ r.s.data.toList) := by
  have bel : Below w.heap.size w ((w.alloc (.cells (recA r) 74)).alloc (.cells rec0 74)) := ((Below.refl _ w).alloc (Nat.le_refl _) _).alloc (by simp) _
  have F := hide (make_any b mo sec r.s n σ ((w.alloc (.cells (recA r) 74)).alloc (.cells rec0 74)) hp hf.s hn hσ hN (hK.below bel hK.lt) (hV.below bel))
  have hgn : genR σ r.s ≤ n + 1 := by
    unfold genR made
    rw [if_pos rfl]
    split
    · omega
    · show (σ r.s.data.toList).1 + 1 ≤ n + 1; omega
  have E4 := hide ((HasR.new w 74 (recA r)).alloc (.cells rec0 74))
  have E6 := hide (HasR.new (w.alloc (.cells (recA r) 74)) 74 rec0)
  rw [World.size_alloc] at E6
  have hb := hV.row.lt
  have mlt : ∀ m, mo = some m → m < w.heap.size := fun m e => by obtain ⟨D, ho, _⟩ := hV.held m e; exact ho.lt
  have HV := hide hV
  have HM := hide mlt
  have BL := hide bel
  have HKS := hide hKS
  have hne := nilNe
  unfold sealR
  change Hid (Calls _ _ _ _ fun e w' => e = .returned (.tuple #[.int .i64 (genR σ r.s : Int), .string (keyB sec r.s (genR σ r.s)), .nilIface]) ∧ _) at F
  generalize genR σ r.s = G at F hgn ⊢
  have hf1 : Fit { r with g := G } := ⟨hf.q, by show G < 1000000; omega, hf.s, hf.p, hf.d⟩
  have NO := hide (fun wx => nonce_any { r with g := G } wx hf1)
  have WI := hide (fun wx hKx => with_any { r with g := G } wx hf1 hKx)
  have SE := hide (fun wx hKx => seal_ok (keyB sec r.s G) (nonceR r) (withR { r with g := G }) t wx ht (keyB_size _ _ _) (nonceR_size r) (by rw [withR_size]; omega) hKx)
  change Hid (∀ wx, Calls _ _ #[.agg #[.int .i64 (r.q : Int), .string r.s, .int .i64 (G : Int), .string r.p, .string r.d]] wx fun e w' => e = .returned (.string (nonceR r)) ∧ _) at NO
  change Hid (∀ wx, TabK wx → Calls _ _ #[.agg #[.int .i64 (r.q : Int), .string r.s, .int .i64 (G : Int), .string r.p, .string r.d]] wx _) at WI
  change Hid (∀ wx, TabK wx → Calls _ _ _ wx fun e w' => e = .returned (.tuple #[.string (sealB (keyB sec r.s G) (nonceR r) (withR { r with g := G }) t), .nilIface]) ∧ _) at SE
  generalize sealB (keyB sec r.s G) (nonceR r) (withR { r with g := G }) t = D at SE ⊢
  generalize keyB sec r.s G = ky at F SE
  generalize withR { r with g := G } = wi at WI SE
  generalize nonceR r = no at NO SE
  have hk3 := hK.lt
  clear hV mlt bel hKS hf1 hK
  unfold recA rec0 at F E4 E6 BL
  go_enter Tryz.func118, Tryz.ntmps118
  go_upto_region 4 with (go_at_call 152; (with_reducible refine F.out.mono ?_); rintro e w3 ⟨rfl, hk⟩; have K3 := hide hk; obtain ⟨m, hp3, hm, hst⟩ := hk; have nin : ∀ j, w.heap.size ≤ j → j ∉ b :: mo.toList := (fun j hj hmem => by rcases List.mem_cons.1 hmem with e | e; (have := hb; omega); (have := HM.out j (by simpa using e); omega)); have X4 := hide (E4.out.turned hst (nin _ (Nat.le_refl _))); have X6 := hide (E6.out.turned hst (nin _ (by omega))); have TK3 := hide (HKS.out w3 ((Stirred.of_below BL.out _).andThen hst (fun j hj => .inl hj))); clear hp3 hm hst nin)
  have g2 : w3.cell? ⟨w.heap.size, 2, none⟩ = some (.int .i64 (r.g : Int)) := X4.out.cell 2
  have p2 : w3.frozen? ⟨w.heap.size, 2, none⟩ = false := X4.out.free 2
  go_upto_region 5 with fail
  clear g2 p2
  have Y4 : HasR (w3.setCell ⟨w.heap.size, 2, none⟩ (.int .i64 (G : Int))) w.heap.size 74 #[.int .i64 (r.q : Int), .string r.s, .int .i64 (G : Int), .string r.p, .string r.d] := by
    have := X4.out.set 2 (.int .i64 (G : Int))
    exact this
  have T4 := Stirred.setCell w3 ⟨w.heap.size, 2, none⟩ (.int .i64 (G : Int))
  have TK4 := hide (TK3.out.below (T4.below (B := w.heap.size) (Nat.le_of_lt X4.out.lt) (fun j hj => by simp at hj; omega)) hk3)
  have Y6 := hide (X6.out.turned T4 (by simp))
  have S4 := hide T4
  have H4 := hide Y4
  clear T4 X4 X6 Y4 TK3
  generalize w3.setCell ⟨w.heap.size, 2, none⟩ (.int .i64 (G : Int)) = w4 at H4 Y6 S4 TK4 ⊢
  have c0 : w4.cell? ⟨w.heap.size, 0, none⟩ = some (.int .i64 (r.q : Int)) := H4.out.cell 0
  have c1 : w4.cell? ⟨w.heap.size, 1, none⟩ = some (.string r.s) := H4.out.cell 1
  have c2 : w4.cell? ⟨w.heap.size, 2, none⟩ = some (.int .i64 (G : Int)) := H4.out.cell 2
  have c3 : w4.cell? ⟨w.heap.size, 3, none⟩ = some (.string r.p) := H4.out.cell 3
  have c4 : w4.cell? ⟨w.heap.size, 4, none⟩ = some (.string r.d) := H4.out.cell 4
  have BD := hide (Below.refl w4.heap.size w4).drew
  have KD := hide (TK4.out.below BD.out TK4.out.lt)
  have HD := hide H4.out.drew
  go_cut [10] (fun s10 wx => s10 = .nilIface ∧ HasR wx w.heap.size 74 #[.int .i64 (r.q : Int), .string r.s, .int .i64 (G : Int), .string r.p, .string D] ∧ Stirred [w.heap.size] w4 wx)
  case first =>
    go_region_with (first
      | (go_at_call 154; (with_reducible refine (NO.out _).mono ?_); rintro e w5 ⟨rfl, hb5⟩; have B5 := hide (BD.out.trans (hb5.mono BD.out.size)); have K5 := hide (KD.out.below hb5 KD.out.lt); have H5 := hide (HD.out.below hb5 HD.out.lt); have x0 : w5.cell? ⟨w.heap.size, 0, none⟩ = some (.int .i64 (r.q : Int)) := H5.out.cell 0; have x1 : w5.cell? ⟨w.heap.size, 1, none⟩ = some (.string r.s) := H5.out.cell 1; have x2 : w5.cell? ⟨w.heap.size, 2, none⟩ = some (.int .i64 (G : Int)) := H5.out.cell 2; have x3 : w5.cell? ⟨w.heap.size, 3, none⟩ = some (.string r.p) := H5.out.cell 3; have x4 : w5.cell? ⟨w.heap.size, 4, none⟩ = some (.string r.d) := H5.out.cell 4; clear hb5)
      | (go_at_call 155; (with_reducible refine (WI.out _ K5.out).mono ?_); rintro e w6 ⟨rfl, hb6⟩; have B6 := hide (B5.out.trans (hb6.mono B5.out.size)); have K6 := hide (K5.out.below hb6 K5.out.lt); have H6 := hide (H5.out.below hb6 H5.out.lt); clear hb6)
      | (go_at_call 153; (with_reducible refine (SE.out _ K6.out).mono ?_); rintro e w7 ⟨rfl, hb7⟩; have B7 := hide (B6.out.trans (hb7.mono B6.out.size)); have H7 := hide (H6.out.below hb7 H6.out.lt); have g7 : w7.cell? ⟨w.heap.size, 4, none⟩ = some (.string r.d) := H7.out.cell 4; have p7 : w7.frozen? ⟨w.heap.size, 4, none⟩ = false := H7.out.free 4; clear hb7))
    all_goals
      go_wp2
      go_meet
      exact ⟨rfl, by have := H7.out.set 4 (.string D); exact this, (Stirred.of_below B7.out _).andThen (Stirred.setCell w7 ⟨w.heap.size, 4, none⟩ (.string D)) (fun j hj => .inl hj)⟩
  case rest =>
    obtain ⟨rfl, hX, hS⟩ := hcut
    have Z6 := hide (Y6.out.turned hS (by simp))
    have SS := hide (S4.out.andThen hS (fun j hj => .inl hj))
    clear c0 c1 c2 c3 c4 H4 Y6 S4 hS BD KD HD TK4
    have c0 : wc.cell? ⟨w.heap.size, 0, none⟩ = some (.int .i64 (r.q : Int)) := hX.cell 0
    have c1 : wc.cell? ⟨w.heap.size, 1, none⟩ = some (.string r.s) := hX.cell 1
    have c2 : wc.cell? ⟨w.heap.size, 2, none⟩ = some (.int .i64 (G : Int)) := hX.cell 2
    have c3 : wc.cell? ⟨w.heap.size, 3, none⟩ = some (.string r.p) := hX.cell 3
    have c4 : wc.cell? ⟨w.heap.size, 4, none⟩ = some (.string D) := hX.cell 4
    have d0 : wc.cell? ⟨w.heap.size + 1, 0, none⟩ = some (.int .i64 0) := Z6.out.cell 0
    have d1 : wc.cell? ⟨w.heap.size + 1, 1, none⟩ = some (.string ⟨#[]⟩) := Z6.out.cell 1
    have d2 : wc.cell? ⟨w.heap.size + 1, 2, none⟩ = some (.int .i64 0) := Z6.out.cell 2
    have d3 : wc.cell? ⟨w.heap.size + 1, 3, none⟩ = some (.string ⟨#[]⟩) := Z6.out.cell 3
    have d4 : wc.cell? ⟨w.heap.size + 1, 4, none⟩ = some (.string ⟨#[]⟩) := Z6.out.cell 4
    have e0 : wc.frozen? ⟨w.heap.size + 1, 0, none⟩ = false := Z6.out.free 0
    have e1 : wc.frozen? ⟨w.heap.size + 1, 1, none⟩ = false := Z6.out.free 1
    have e2 : wc.frozen? ⟨w.heap.size + 1, 2, none⟩ = false := Z6.out.free 2
    have e3 : wc.frozen? ⟨w.heap.size + 1, 3, none⟩ = false := Z6.out.free 3
    have e4 : wc.frozen? ⟨w.heap.size + 1, 4, none⟩ = false := Z6.out.free 4
    clear hX
    go_wp2
    have XF := HasR.five Z6.out (.int .i64 (r.q : Int)) (.string r.s) (.int .i64 (G : Int)) (.string r.p) (.string D)
    have TF := stir5 wc (w.heap.size + 1) (.int .i64 (r.q : Int)) (.string r.s) (.int .i64 (G : Int)) (.string r.p) (.string D)
    generalize ((((wc.setCell ⟨w.heap.size + 1, 0, none⟩ (.int .i64 (r.q : Int))).setCell ⟨w.heap.size + 1, 1, none⟩ (.string r.s)).setCell ⟨w.heap.size + 1, 2, none⟩ (.int .i64 (G : Int))).setCell ⟨w.heap.size + 1, 3, none⟩ (.string r.p)).setCell ⟨w.heap.size + 1, 4, none⟩ (.string D) = wf at XF TF ⊢
    have z0 : wf.cell? ⟨w.heap.size + 1, 0, none⟩ = some (.int .i64 (r.q : Int)) := XF.cell 0
    have z1 : wf.cell? ⟨w.heap.size + 1, 1, none⟩ = some (.string r.s) := XF.cell 1
    have z2 : wf.cell? ⟨w.heap.size + 1, 2, none⟩ = some (.int .i64 (G : Int)) := XF.cell 2
    have z3 : wf.cell? ⟨w.heap.size + 1, 3, none⟩ = some (.string r.p) := XF.cell 3
    have z4 : wf.cell? ⟨w.heap.size + 1, 4, none⟩ = some (.string D) := XF.cell 4
    have TT : Stirred [w.heap.size, w.heap.size + 1] w3 wf := (SS.out.mono (by simp)).andThen (TF.mono (fun j hj => by simp at hj; simp [hj])) (fun j hj => .inl hj)
    refine bodyPost_ret (v := .tuple #[.agg #[.int .i64 (r.q : Int), .string r.s, .int .i64 (G : Int), .string r.p, .string D], .nilIface]) (by simp [results, Tryz.results118, go_sem, z0, z1, z2, z3, z4]) rfl ⟨rfl, K3.out.wrap HV.out BL.out TT (fun j hj => by simp at hj; simp; omega)⟩
end Go.Proofs.YtdjpghgnjcmdnaaGreatDoor

/- A feed as it lies in memory; its head. -/
namespace Go.Proofs.YtdjpghgnjcmdnaaGreatDoor
open Go.RowKit
attribute [local go_sem ↓] Go.wp_at_zero Go.wp_at_succ
def recZ : Rec := ⟨0, ⟨#[]⟩, 0, ⟨#[]⟩, ⟨#[]⟩⟩
def recsL (rs : List Rec) : List Value := rs.flatMap recL
theorem recsL_snoc (rs : List Rec) (r : Rec) : recsL (rs ++ [r]) = recsL rs ++ recL r := by simp [recsL]
theorem recsL_at : ∀ (rs : List Rec) (j i : Nat), j < rs.length → i < 5 → (recsL rs)[j * 5 + i]? = (recL (rs.getD j recZ))[i]?
  | [], j, i, h, _ => by simp at h
  | r :: rs, 0, i, _, hi => by
    have e1 : recsL (r :: rs) = recL r ++ recsL rs := rfl
    rw [e1, Nat.zero_mul, Nat.zero_add, List.getElem?_append_left (by exact hi)]
    rfl
  | r :: rs, j + 1, i, h, hi => by
    have e1 : recsL (r :: rs) = recL r ++ recsL rs := rfl
    have ih := recsL_at rs j i (by simpa using h) hi
    have e2 : (j + 1) * 5 + i = 5 + (j * 5 + i) := by omega
    rw [e1, e2, List.getElem?_append_right (by simp [recL])]
    have e3 : (r :: rs).getD (j + 1) recZ = rs.getD j recZ := by simp
    rw [e3, ← ih]
    congr 1
    simp [recL]
/-- The mark of the last. -/
def headR (rs : List Rec) : ByteArray := if rs = [] then noneB else markR (rs.getD (rs.length - 1) recZ)
theorem headR_size (rs : List Rec) : (headR rs).size = 16 := by
  unfold headR
  split
  · exact noneB_size
  · exact markR_size _
/-- A feed: its vault, and a row of records of its own. -/
structure FeedV (w : World) (fb vb : Nat) (v : Value) (rs : List Rec) : Prop where
  row : HasR w fb 156 #[.pointer (some ⟨vb, 0, none⟩), v]
  own : w.ownsRow (fb + 1) 74 5 v rs.length (recsL rs)
theorem FeedV.turned {w w' : World} {fb vb : Nat} {v : Value} {rs : List Rec} {L : List Nat} (h : FeedV w fb vb v rs) (t : Stirred L w w') (h1 : fb ∉ L) (h2 : ∀ g, v.ownBlock = some g → g ∉ L) : FeedV w' fb vb v rs := by
  refine ⟨h.row.turned t h1, ⟨h.own.1, ?_⟩⟩
  rcases h.own.2 with e | ⟨g, cap, cur, hv, hb, hg, r⟩
  · exact .inl e
  · exact .inr ⟨g, cap, cur, hv, hb, (t.block g (lt_of_block hg) (h2 g (by rw [hv]; rfl))).trans hg, r⟩
theorem FeedV.below {w w' : World} {fb vb : Nat} {v : Value} {rs : List Rec} (h : FeedV w fb vb v rs) (k : Below w.heap.size w w') : FeedV w' fb vb v rs := h.turned (Stirred.of_below k []) (by simp) (fun _ _ => by simp)
theorem FeedV.slice {w : World} {fb vb : Nat} {v : Value} {rs : List Rec} (h : FeedV w fb vb v rs) : ∃ p c, v = .slice p rs.length c := by
  rcases h.own.2 with ⟨e, e0⟩ | ⟨g, cap, cur, hv, _⟩
  · exact ⟨_, _, by rw [e, e0]⟩
  · exact ⟨_, _, hv⟩
theorem FeedV.at {w : World} {fb vb n cap : Nat} {p : Option Addr} {rs : List Rec} {k : Nat} (h : FeedV w fb vb (.slice p n cap) rs) (hk : k < rs.length) : ∃ g, p = some ⟨g, 0, none⟩ ∧ g < w.heap.size ∧ rs.length ≤ cap ∧ w.cell? ⟨g, k * 5, none⟩ = some (.int .i64 ((rs.getD k recZ).q : Int)) ∧ w.cell? ⟨g, k * 5 + 1, none⟩ = some (.string (rs.getD k recZ).s) ∧ w.cell? ⟨g, k * 5 + 2, none⟩ = some (.int .i64 ((rs.getD k recZ).g : Int)) ∧ w.cell? ⟨g, k * 5 + 3, none⟩ = some (.string (rs.getD k recZ).p) ∧ w.cell? ⟨g, k * 5 + 4, none⟩ = some (.string (rs.getD k recZ).d) := by
  rcases h.own.2 with ⟨_, e0⟩ | ⟨g, cap', cur, hv, hb, hg, h1, h2, h3, h4⟩
  · omega
  · injection hv with e1 e2 e3
    subst e1 e3
    have f : ∀ i u, (recL (rs.getD k recZ))[i]? = some u → w.cell? ⟨g, k * 5 + i, none⟩ = some u := fun i u hu => by
      have hi : i < 5 := (List.getElem?_eq_some_iff.1 hu).1
      rw [cell_of_row w g _ cur 74 (0, 0) hg, ← Array.getElem?_toList, ← List.getElem?_take_of_lt (j := rs.length * 5) (by omega), h4, recsL_at rs k i hk hi]
      exact hu
    exact ⟨g, rfl, lt_of_block hg, h1, f 0 _ rfl, f 1 _ rfl, f 2 _ rfl, f 3 _ rfl, f 4 _ rfl⟩
theorem ptrF_nil (b : Nat) (w : World) : (binOp .eql 105 (.pointer (some ⟨b, 0, none⟩)) (.pointer none)).run Tryz.prog w = .ok (.bool false) w := by kernel_rfl
set_option maxRecDepth 100000 in
set_option maxHeartbeats 1000000 in
theorem head_any (w : World) (fb vb : Nat) (v : Value) (rs : List Rec) (h : FeedV w fb vb v rs) (hf : ∀ r ∈ rs, Fit r) (hl : rs.length ≤ 1000) (hK : TabK w) :
    Calls Tryz.prog 116 #[.pointer (some ⟨fb, 0, none⟩)] w fun e w' => e = .returned (.string (headR rs)) ∧ Below w.heap.size w w' := by
  have hq := ptrF_nil fb
  obtain ⟨p, c, rfl⟩ := h.slice
  have c1 : w.cell? ⟨fb, 1, none⟩ = some (.slice p rs.length c) := h.row.cell 1
  unfold headR
  by_cases h0 : rs = []
  · rw [if_pos h0]
    have e0 : rs.length = 0 := by rw [h0]; rfl
    rw [e0] at c1
    clear h
    go_enter Tryz.func116, Tryz.ntmps116
    go_wp2
    go_ret
    exact ⟨rfl, Below.refl _ _⟩
  · rw [if_neg h0]
    have hp : 0 < rs.length := List.length_pos_iff.2 h0
    obtain ⟨g, rfl, hg, hcap, x0, x1, x2, x3, x4⟩ := h.at (k := rs.length - 1) (by omega)
    have hm : rs.getD (rs.length - 1) recZ ∈ rs := by
      rw [List.getD_eq_getElem?_getD, List.getElem?_eq_getElem (by omega), Option.getD_some]
      exact List.getElem_mem _
    have M := hide (markRec_any (rs.getD (rs.length - 1) recZ) w.drew (hf _ hm) (hK.below (Below.refl _ w).drew hK.lt))
    generalize rs.getD (rs.length - 1) recZ = r at x0 x1 x2 x3 x4 M ⊢
    obtain ⟨k, hk⟩ : ∃ k, rs.length = k + 1 := ⟨rs.length - 1, by omega⟩
    rw [show rs.length - 1 = k by omega] at x0 x1 x2 x3 x4
    rw [hk] at c1 hcap hl
    have hz : (((k + 1 : Nat) : Int) == 0) = false := by simp; omega
    have hw1 : IntKind.i64.wrap (k : Int) = (k : Int) := by simp [IntKind.wrap, IntKind.bits, IntKind.signed]; omega
    have hk0 : (0 : Int) ≤ (k : Int) := by omega
    have hk1 : (k : Int) < (k : Int) + 1 := by omega
    have hk2 : (k : Int) ≤ (k : Int) + 1 := by omega
    have hfb : fb < w.heap.size := h.row.lt
    clear h hk h0 hm hp
    go_enter Tryz.func116, Tryz.ntmps116
    go_wp2
    go_region_held3 (fun wx => wx.cell? ⟨fb, 1, none⟩ = some (.slice (some ⟨g, 0, none⟩) (k + 1) c) ∧ wx.cell? ⟨g, k * 5, none⟩ = some (.int .i64 (r.q : Int)) ∧ wx.cell? ⟨g, k * 5 + 1, none⟩ = some (.string r.s) ∧ wx.cell? ⟨g, k * 5 + 2, none⟩ = some (.int .i64 (r.g : Int)) ∧ wx.cell? ⟨g, k * 5 + 3, none⟩ = some (.string r.p) ∧ wx.cell? ⟨g, k * 5 + 4, none⟩ = some (.string r.d)) (first | (with_reducible exact K1.out) | go_keep)
      ((go_at_call 58; (with_reducible refine M.out.mono ?_); rintro e w1 ⟨rfl, hb1⟩; have B1 := hide ((Below.refl w.heap.size w).drew.trans hb1); have K1 := hide (⟨(B1.out.cell hfb).trans c1, (B1.out.cell hg).trans x0, (B1.out.cell hg).trans x1, (B1.out.cell hg).trans x2, (B1.out.cell hg).trans x3, (B1.out.cell hg).trans x4⟩ : w1.cell? ⟨fb, 1, none⟩ = some (.slice (some ⟨g, 0, none⟩) (k + 1) c) ∧ w1.cell? ⟨g, k * 5, none⟩ = some (.int .i64 (r.q : Int)) ∧ w1.cell? ⟨g, k * 5 + 1, none⟩ = some (.string r.s) ∧ w1.cell? ⟨g, k * 5 + 2, none⟩ = some (.int .i64 (r.g : Int)) ∧ w1.cell? ⟨g, k * 5 + 3, none⟩ = some (.string r.p) ∧ w1.cell? ⟨g, k * 5 + 4, none⟩ = some (.string r.d)); clear hb1))
    go_wp2
    go_ret
    exact ⟨rfl, B1.out⟩
end Go.Proofs.YtdjpghgnjcmdnaaGreatDoor
