/- What is sealed is opened, as plain mathematics of bytes and as the program's calls; the law's own fact. -/
import Derived.Test.YteckhejfmbiamaaDoorBox
import Derived.Test.YteckhejfmbiamaaDoorRepeat
namespace Go.Proofs.YteckhejfmbiamaaDoor
open Go.RowKit
attribute [local go_sem ↓] Go.wp_at_zero Go.wp_at_succ
theorem xorL_len (key nonce l : List UInt8) : (xorL key nonce l).length = l.length := xorTo_len _ _ _ _
theorem xorL_at (key nonce l : List UInt8) (i : Nat) (h : i < l.length) : (xorL key nonce l).getD i 0 = l.getD i 0 ^^^ keyAt key nonce i := by
  unfold xorL xorTo
  simp [h]
theorem u8_cancel (x k : UInt8) : x ^^^ k ^^^ k = x := by
  rw [UInt8.xor_assoc, UInt8.xor_self, UInt8.xor_zero]
theorem xorL_twice (key nonce l : List UInt8) : xorL key nonce (xorL key nonce l) = l := by
  apply List.ext_getElem
  · rw [xorL_len, xorL_len]
  · intro i h1 h2
    have e1 := xorL_at key nonce (xorL key nonce l) i (by rw [xorL_len]; exact h2)
    rw [xorL_at key nonce l i h2, u8_cancel] at e1
    simpa [List.getD_eq_getElem?_getD, h1, h2] using e1
theorem xorB_twice (key nonce s : ByteArray) : xorB key nonce (xorB key nonce s) = s := by
  show (⟨(xorL key.data.toList nonce.data.toList (xorL key.data.toList nonce.data.toList s.data.toList)).toArray⟩ : ByteArray) = s
  rw [xorL_twice]
/-- What a text is sealed as. -/
def sealB (key nonce wi s : ByteArray) : ByteArray := tagB key nonce wi (xorB key nonce s) ++ xorB key nonce s
theorem sealB_size (key nonce wi s : ByteArray) : (sealB key nonce wi s).size = 16 + s.size := by
  unfold sealB
  rw [ByteArray.size_append, tagB_size, xorB_size]
theorem sealB_head (key nonce wi s : ByteArray) : (sealB key nonce wi s).extract 0 16 = tagB key nonce wi (xorB key nonce s) := app_head _ _ (tagB_size _ _ _ _)
theorem sealB_rest (key nonce wi s : ByteArray) : (sealB key nonce wi s).extract 16 (sealB key nonce wi s).size = xorB key nonce s := app_rest _ _ (tagB_size _ _ _ _)
theorem open_back (key nonce wi s : ByteArray) (w : World) (h : s.size ≤ 400) (hk : key.size = 32) (hn : nonce.size = 12) (hw : wi.size ≤ 20000) (hK : TabK w) :
    Calls Tryd.prog 26 #[.string key, .string nonce, .string wi, .string (sealB key nonce wi s)] w fun e w' => e = .returned (.tuple #[.string s, .nilIface]) ∧ Below w.heap.size w w' := by
  have q := open_ok key nonce wi (sealB key nonce wi s) w hk hn hw (by rw [sealB_size]; omega) (by rw [sealB_size]; omega) hK (by rw [sealB_head, sealB_rest])
  rw [sealB_rest, xorB_twice] at q
  exact q
/-- What was opened was sealed just so. -/
theorem seal_back (key nonce wi s : ByteArray) (w : World) (hk : key.size = 32) (hn : nonce.size = 12) (hw : wi.size ≤ 20000) (h0 : 16 ≤ s.size) (h1 : s.size ≤ 416) (hK : TabK w) (ht : s.extract 0 16 = tagB key nonce wi (s.extract 16 s.size)) :
    Calls Tryd.prog 24 #[.string key, .string nonce, .string wi, .string (xorB key nonce (s.extract 16 s.size))] w fun e w' => e = .returned (.tuple #[.string s, .nilIface]) ∧ Below w.heap.size w w' := by
  have q := seal_ok key nonce wi (xorB key nonce (s.extract 16 s.size)) w (by rw [xorB_size, ByteArray.size_extract]; omega) hk hn hw hK
  rw [xorB_twice, ← ht, head_rest] at q
  exact q
/-- Thirty-two times one letter, and twelve times another. -/
def keyK : ByteArray := ⟨(Lib.repeatL [107] 32).toArray⟩
def nonceN : ByteArray := ⟨(Lib.repeatL [110] 12).toArray⟩
theorem keyK_size : keyK.size = 32 := by decide +kernel
theorem nonceN_size : nonceN.size = 12 := by decide +kernel
theorem keyK_gives (w : World) : Calls Tryd.prog 46 #[.string ⟨#[107]⟩, .int .i64 32] w fun e w' => e = .returned (.string keyK) ∧ Below w.heap.size w w' := repeat_any ⟨#[107]⟩ 32 w (by omega) (by decide)
theorem nonceN_gives (w : World) : Calls Tryd.prog 46 #[.string ⟨#[110]⟩, .int .i64 12] w fun e w' => e = .returned (.string nonceN) ∧ Below w.heap.size w w' := repeat_any ⟨#[110]⟩ 12 w (by omega) (by decide)
set_option maxRecDepth 100000 in
set_option maxHeartbeats 400000 in
theorem sealed_any (w : World) (hK : TabK w) : Calls Tryd.prog 27 #[] w fun e w' => e = .returned (.bool true) ∧ Below w.heap.size w w' := by
  have A1 := hide keyK_gives
  have A2 := hide nonceN_gives
  have s1 : ∀ wx, TabK wx → Calls Tryd.prog 24 #[.string keyK, .string nonceN, .string ⟨#[119, 105, 116, 104]⟩, .string ⟨#[116, 101, 120, 116]⟩] wx fun e w' => e = .returned (.tuple #[.string (sealB keyK nonceN ⟨#[119, 105, 116, 104]⟩ ⟨#[116, 101, 120, 116]⟩), .nilIface]) ∧ Below wx.heap.size wx w' :=
    fun wx h => seal_ok keyK nonceN ⟨#[119, 105, 116, 104]⟩ ⟨#[116, 101, 120, 116]⟩ wx (by decide) keyK_size nonceN_size (by decide) h
  have o1 := fun wx h => open_back keyK nonceN ⟨#[119, 105, 116, 104]⟩ ⟨#[116, 101, 120, 116]⟩ wx (by decide) keyK_size nonceN_size (by decide) h
  have l1 : (sealB keyK nonceN ⟨#[119, 105, 116, 104]⟩ ⟨#[116, 101, 120, 116]⟩).size = 20 := sealB_size _ _ _ _
  generalize sealB keyK nonceN ⟨#[119, 105, 116, 104]⟩ ⟨#[116, 101, 120, 116]⟩ = S at s1 o1 l1
  generalize keyK = k at A1 s1 o1
  generalize nonceN = n at A2 s1 o1
  have S1 := hide s1
  have O1 := hide o1
  clear s1 o1
  go_enter Tryd.func27, Tryd.ntmps27
  go_wp2_with (first
    | (go_at_call 46; (with_reducible refine (A1.out _).mono ?_); rintro e w1 ⟨rfl, hb1⟩; have hK1 := hK.below hb1 hK.lt)
    | (go_at_call 46; (with_reducible refine (A2.out _).mono ?_); rintro e w2 ⟨rfl, hb2⟩; have hK2 := hK1.below hb2 hK1.lt; have hB2 := hb1.trans (hb2.mono hb1.size))
    | (go_at_call 24; (with_reducible refine (S1.out _ hK2).mono ?_); rintro e w3 ⟨rfl, hb3⟩; have hK3 := hK2.below hb3 hK2.lt; have hB3 := hB2.trans (hb3.mono hB2.size))
    | (go_at_call 26; (with_reducible refine (O1.out _ hK3).mono ?_); rintro e w4 ⟨rfl, hb4⟩; have hB4 := hB3.trans (hb4.mono hB3.size)))
  go_ret
  exact ⟨rfl, hB4⟩
end Go.Proofs.YteckhejfmbiamaaDoor
