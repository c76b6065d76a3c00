/- Forget and Key: the program's own and the document's. -/
import Derived.Test.YtdoakaadpfheaaaDoorRefMake
namespace Go.Proofs.YtdoakaadpfheaaaDoor
open Go.RowKit Go.Maps
attribute [local go_sem ↓] Go.wp_at_zero Go.wp_at_succ
set_option maxRecDepth 100000 in
set_option maxHeartbeats 1000000 in
theorem forget_none (b : Nat) (mo : Option Nat) (sec s : ByteArray) (n : Nat) (σ : Kept) (w : World) (hs : s.size ≤ 60) (hV : ProgV w b mo sec n σ) (hh : (σ s.data.toList).2 = false) :
    Calls Tryd.prog 36 #[.pointer (some ⟨b, 0, none⟩), .string s] w fun e w' => e = .returned (.iface 30 (.int .i64 8)) ∧ Below w.heap.size w w' := by
  have O := hide (of_any b mo sec s n σ w hs hV)
  rw [lastB_none hh] at O
  generalize (σ s.data.toList).1 = a at O
  go_enter Tryd.func36, Tryd.ntmps36
  go_wp2_with (go_at_call 63; (with_reducible refine O.out.mono ?_); rintro e w2 ⟨rfl, hb2⟩)
  go_ret
  exact ⟨rfl, hb2.alloc hb2.size _⟩
set_option maxRecDepth 100000 in
set_option maxHeartbeats 1000000 in
theorem forget_held (b : Nat) (mo : Option Nat) (sec s : ByteArray) (n : Nat) (σ : Kept) (w : World) (hs : s.size ≤ 60) (hn : n < 1000) (hV : ProgV w b mo sec n σ) (hh : (σ s.data.toList).2 = true) :
    Calls Tryd.prog 36 #[.pointer (some ⟨b, 0, none⟩), .string s] w fun e w' => e = .returned .nilIface ∧ Keeps w w' b mo sec (n + 1) (gone σ s.data.toList) := by
  have O := hide (of_any b mo sec s n σ w hs hV)
  rw [lastB_held hh] at O
  have d := text_full (keyB_size sec s (σ s.data.toList).1)
  generalize keyB sec s (σ s.data.toList).1 = k at O d
  have KP := hide (fun wx hVx => keep_any b mo sec s ⟨#[]⟩ (σ s.data.toList).1 n σ (gone σ s.data.toList) wx hs hn hVx (fun D h => h.gone s.data.toList))
  generalize gone σ s.data.toList = σ' at KP
  generalize (σ s.data.toList).1 = a at O KP
  have HV := hide hV
  clear hV
  go_enter Tryd.func36, Tryd.ntmps36
  go_wp2_with (first
    | (go_at_call 63; (with_reducible refine O.out.mono ?_); rintro e w2 ⟨rfl, hb2⟩; have hbX : Below w.heap.size w (w2.alloc (.cells #[.int .i64 (a : Int), .string k] 107)) := (hb2.alloc hb2.size _); have HVX := hide (HV.out.below hbX))
    | (go_at_call 65; (with_reducible refine (KP.out _ HVX.out).mono ?_); rintro e w5 ⟨rfl, hk5⟩))
  go_ret
  exact ⟨rfl, hk5.behind (Stirred.of_below hbX []) (by simp)⟩
set_option maxRecDepth 100000 in
set_option maxHeartbeats 1000000 in
theorem refForget_none (c b bh bs : Nat) (sec s : ByteArray) (n : Nat) (σ : Kept) (w : World) (hs : s.size ≤ 60) (hV : RefV w c b bh bs sec n σ) (hh : (σ s.data.toList).2 = false) :
    Calls Tryd.prog 37 #[.pointer (some ⟨b, 0, none⟩), .string s] w fun e w' => e = .returned (.int .i64 8) ∧ w' = w := by
  have c3 : w.cell? ⟨b, 3, none⟩ = some (.map (some bs)) := hV.row.cell 3
  have r1 := hV.hasRun s hs
  rw [hh] at r1
  clear hV
  go_enter Tryd.func37, Tryd.ntmps37
  go_wp2
  go_ret
  exact ⟨rfl, rfl⟩
theorem RefV.gone {w : World} {c b bh bs : Nat} {sec s : ByteArray} {n : Nat} {σ : Kept} (h : RefV w c b bh bs sec n σ) (hs : s.size ≤ 60) (hn : n < 1000) :
    ∃ w2, (Instr.mapUpdate 100 (.map (some bs)) (.string s) (.bool false)).run Tryd.prog w = .ok () w2 ∧ Stirred [bs] w w2 ∧ RefV w2 c b bh bs sec (n + 1) (gone σ s.data.toList) := by
  obtain ⟨a1, a2, a3, a4⟩ := h.apart
  obtain ⟨D1, o1, i1⟩ := h.had
  obtain ⟨D2, o2, i2⟩ := h.has
  obtain ⟨w2, r2, p2, t2⟩ := o2.store law9 Tryd.underlying100 (by unfold maxLen; omega) (key9 s hs) (plainElem_bool (H := Unit) Tryd.underlying4 false)
  have t2' := Stirred.of_turned t2
  exact ⟨w2, r2, t2', h.row.turned t2' (by simp; exact fun e => a2 e.symm), ⟨_, (ownsMap_turned o1 t2' (by simp; exact h.two)).mono (by omega), i1.gone _⟩, ⟨_, p2, i2.gone _⟩,
    h.ref.turned t2' (by simp; exact fun e => a4 e.symm), h.two⟩
set_option maxRecDepth 100000 in
set_option maxHeartbeats 1000000 in
theorem refForget_held (c b bh bs : Nat) (sec s : ByteArray) (n : Nat) (σ : Kept) (w : World) (hs : s.size ≤ 60) (hn : n < 1000) (hV : RefV w c b bh bs sec n σ) (hh : (σ s.data.toList).2 = true) :
    Calls Tryd.prog 37 #[.pointer (some ⟨b, 0, none⟩), .string s] w fun e w' => e = .returned (.int .i64 0) ∧ RefKeeps w w' c b bh bs sec (n + 1) (gone σ s.data.toList) := by
  have c3 : w.cell? ⟨b, 3, none⟩ = some (.map (some bs)) := hV.row.cell 3
  have r1 := hV.hasRun s hs
  rw [hh] at r1
  obtain ⟨w2, u2, t2, hV2⟩ := hV.gone hs hn
  have HV2 := hide hV2
  have T2 := hide t2
  clear hV hV2 t2
  go_enter Tryd.func37, Tryd.ntmps37
  go_wp2
  go_ret
  exact ⟨rfl, HV2.out, T2.out.mono (fun j hj => by simp at hj; simp [hj])⟩
/-- What both answer to Forget: the document's number of the error, the program's error; and what is kept then. -/
theorem forget_both (sec s : ByteArray) (n : Nat) (σ : Kept) (hs : s.size ≤ 60) (hn : n < 1000) :
    ∃ (e : Int) (v : Value), (∀ w b mo, ProgV w b mo sec n σ → Calls Tryd.prog 36 #[.pointer (some ⟨b, 0, none⟩), .string s] w fun x w' => x = .returned v ∧ ∃ mo', ProgV w' b mo' sec (n + 1) (gone σ s.data.toList) ∧ (mo' = mo ∨ (mo = none ∧ ∃ m, mo' = some m ∧ w.heap.size ≤ m)) ∧ Stirred (b :: mo.toList) w w') ∧
      (∀ w c b bh bs, RefV w c b bh bs sec n σ → Calls Tryd.prog 37 #[.pointer (some ⟨b, 0, none⟩), .string s] w fun x w' => x = .returned (.int .i64 e) ∧ RefKeeps w w' c b bh bs sec (n + 1) (gone σ s.data.toList)) ∧
      (∀ w, TabE w → Calls Tryd.prog 21 #[v, .int .i64 e] w fun x w' => x = .returned (.bool true) ∧ Below w.heap.size w w') := by
  cases hh : (σ s.data.toList).2
  · rw [gone_none hh]
    exact ⟨8, .iface 30 (.int .i64 8), fun w b mo hV => (forget_none b mo sec s n σ w hs hV hh).mono fun x w' ⟨hx, hb⟩ => ⟨hx, mo, (hV.below hb).more, .inl rfl, Stirred.of_below hb _⟩,
      fun w c b bh bs hV => (refForget_none c b bh bs sec s n σ w hs hV hh).mono fun x w' ⟨hx, hw⟩ => ⟨hx, by rw [hw]; exact ⟨hV.more, Stirred.refl _ _⟩⟩, fun w hE => bare_same 8 w hE⟩
  · refine ⟨0, .nilIface, fun w b mo hV => (forget_held b mo sec s n σ w hs hn hV hh).mono fun x w' ⟨hx, m, h1, h2, h3⟩ => ⟨hx, some m, h1, ?_, h3⟩,
      fun w c b bh bs hV => refForget_held c b bh bs sec s n σ w hs hn hV hh, fun w _ => same_below (bare_nil w)⟩
    rcases h2 with h2 | ⟨h2, h4⟩
    · exact .inl h2.symm
    · exact .inr ⟨h2, m, rfl, h4⟩
end Go.Proofs.YtdoakaadpfheaaaDoor
