/- Texts of this proof, one behind the other. -/
import Derived.WalkLawsBesides
import Derived.Lib.ParseIntBTie
import Derived.Shelf.Strconv.ErrVarParseInt
import Derived.Lib.AtoiErrMem
import Derived.Deep.DeepCutAuto
import Derived.RangeFuncNested
import Derived.RangeFuncBound
import Derived.RangeFuncCalls
import Derived.RangeFuncLeaves
import Derived.Shelf.Abstract
import Derived.Shelf.RegionOpen
import Derived.WalkKit
import Derived.OwnWalkIn
import Derived.TacticsInMore
import Derived.LoopNIn
import Derived.LoopIn
import Derived.CallsIn
import Derived.Test.YtdjpghgnjcmdnaaGreatDoorProg
import Derived.Test.YtdjpghgnjcmdnaaGreatDoorPart6
/- A session's small functions: what is thrown; numbers as texts; a text told as a number. -/
namespace Go.Proofs.YtdjpghgnjcmdnaaGreatDoor
open Go.RowKit Go.Shelf Go.Sort
attribute [local go_sem ↓] Go.wp_at_zero Go.wp_at_succ
/-- A thrown number of the program's own. -/
abbrev thrown (n : Int) : Ending := .panicked [{ v := .iface 25 (.int .i64 n), recovered := false }]
set_option maxRecDepth 100000 in
set_option maxHeartbeats 400000 in
theorem throw_any (n : Int) (w : World) (hE : TabE w) : Calls Tryz.prog 49 #[.iface 25 (.int .i64 n)] w fun e w' => e = thrown n ∧ Below w.heap.size w w' := by
  have Q := hide (tell_arg n w hE)
  go_enter Tryz.func49, Tryz.ntmps49
  go_wp2_with (go_at_call 85; (with_reducible refine Q.out.mono ?_); rintro y w1 ⟨rfl, hb⟩)
  exact ⟨rfl, rfl, hb⟩
theorem below_gr (W : World) (q : Nat) (os : Array Obj) : Below W.heap.size W (grow (W.drewN q) os) :=
  ⟨rfl, rfl, rfl, by rw [size_grow]; exact Nat.le_add_right _ _, fun k hk => heap_grow_old (W.drewN q) os hk⟩
/-- The library's table of powers lies where it was laid. -/
def Pow (w : World) : Prop := ∃ t fz, w.heap[1]? = some (.cells (Lib.pow10Tab.map fun z => Value.int .u64 z).toArray t fz)
theorem Pow.lt {w : World} (h : Pow w) : 1 < w.heap.size := by
  obtain ⟨t, fz, e⟩ := h
  exact (Array.getElem?_eq_some_iff.1 e).1
theorem Pow.below {w w' : World} {B : Nat} (h : Pow w) (hb : Below B w w') (hB : 1 < B) : Pow w' := by
  obtain ⟨t, fz, e⟩ := h
  exact ⟨t, fz, (hb.block 1 hB).trans e⟩
theorem Pow.tab {w : World} (h : Pow w) {n : String} (hn : Tryz.prog.globalNamed n = some 1) : Lib.TabIs Tryz.prog w n .u64 Lib.pow10Tab := by
  obtain ⟨t, fz, e⟩ := h
  unfold Lib.TabIs World.var?
  rw [hn]
  simp only [Option.bind_some, e]
def textL (l : List UInt8) : ByteArray := ⟨l.toArray⟩
def small64 (n : Int) : Prop := -9223372036854775808 ≤ n ∧ n ≤ 9223372036854775807
theorem itoa_any (n : Int) (hn : small64 n) (w : World) (hP : Pow w) : Calls Tryz.prog 13 #[.int .i64 n] w fun e w' => e = .returned (.string (textL (Lib.itoa n))) ∧ Below w.heap.size w w' :=
  (Any.strconv_Itoa dLaysM171 n hn.1 hn.2 w (hP.tab (by kernel_rfl))).mono fun _ _ ⟨he, k, os, hw⟩ => ⟨he, by rw [hw]; exact below_gr w k os⟩
theorem format_any (n : Int) (hn : small64 n) (w : World) (hP : Pow w) : Calls Tryz.prog 106 #[.int .i64 n, .int .i64 10] w fun e w' => e = .returned (.string (textL (Lib.itoa n))) ∧ Below w.heap.size w w' :=
  (Any.strconv_FormatInt_10 dLaysM173 n hn.1 hn.2 w (hP.tab (by kernel_rfl))).mono fun _ _ ⟨he, k, os, hw⟩ => ⟨he, by rw [hw]; exact below_gr w k os⟩
end Go.Proofs.YtdjpghgnjcmdnaaGreatDoor

/- A text told as a number; what is told; what was thrown, as it is told. -/
namespace Go.Proofs.YtdjpghgnjcmdnaaGreatDoor
open Go.RowKit Go.Shelf Go.Sort
attribute [local go_sem ↓] Go.wp_at_zero Go.wp_at_succ
/-- The library's own errors lie where they were laid. -/
def ErrS (w : World) : Prop := (∃ t p, w.var? Tryz.prog "strconv.ErrSyntax" = some #[.iface t p]) ∧ (∃ t p, w.cell? ⟨8, 0, none⟩ = some (.iface t p))
theorem gSyn : Tryz.prog.globalNamed "strconv.ErrSyntax" = some 7 := by kernel_rfl
theorem ErrS.lt {w : World} (h : ErrS w) : 8 < w.heap.size := by
  obtain ⟨_, t, p, h⟩ := h
  exact block_lt_of_cell h
theorem ErrS.below {w w' : World} {B : Nat} (h : ErrS w) (hb : Below B w w') (hB : 8 < B) : ErrS w' := by
  obtain ⟨⟨t, p, h1⟩, s, q, h2⟩ := h
  refine ⟨⟨t, p, ?_⟩, s, q, by rw [hb.cell (p := ⟨8, 0, none⟩) hB]; exact h2⟩
  unfold World.var? at h1 ⊢
  rw [gSyn] at h1 ⊢
  simp only [Option.bind_some] at h1 ⊢
  rw [hb.block 7 (by omega)]
  exact h1
/-- ParseInt: a number. -/
theorem parseInt_ok (s : ByteArray) (hs : s.size ≤ 30000) (n : Int) (h : Lib.parseIntB 64 s.data.toList = .ok n) (w : World) :
    Calls Tryz.prog 105 #[.string s, .int .i64 10, .int .i64 64] w fun e w' => e = .returned (.tuple #[.int .i64 n, .nilIface]) ∧ Below w.heap.size w w' :=
  (Any.strconv_ParseInt_10_at64_ok dLaysC174 s (by omega) n h w).mono fun _ _ ⟨he, hw⟩ => ⟨he, by
    rcases hw with rfl | ⟨t, rfl⟩
    · exact Below.refl _ _
    · exact Lib.bytesWorld_below w _ t⟩
/-- ParseInt: an error of the library's. -/
theorem parseInt_bad (s : ByteArray) (hs : s.size ≤ 30000) (h : ∀ n, Lib.parseIntB 64 s.data.toList ≠ .ok n) (w : World) (hE : ErrS w) :
    Calls Tryz.prog 105 #[.string s, .int .i64 10, .int .i64 64] w fun e w' => ∃ (m : Int) (k : Nat), e = .returned (.tuple #[.int .i64 m, .iface 256 (.pointer (some ⟨k, 0, none⟩))]) ∧ Below w.heap.size w w' := by
  obtain ⟨⟨t, p, h1⟩, t2, p2, h2⟩ := hE
  cases hp : Lib.parseIntB 64 s.data.toList with
  | ok n => exact absurd hp (h n)
  | range => exact (Any.strconv_ParseInt_10_at64_range dLaysC174 s (by omega) hp _ w h2 (.inr ⟨t2, p2, rfl⟩)).mono fun _ _ ⟨k, he, _, _, hb⟩ => ⟨_, k, he, hb⟩
  | _ => exact (Any.strconv_ParseInt_10_at64_syntax_var dLaysC174 s (by omega) hp t p w h1).mono fun _ _ ⟨k, he, _, _, hb⟩ => ⟨_, k, he, hb⟩
/-- What a word tells, in just the form in which numbers are told. -/
def numW (l : List UInt8) : Option Int := match Lib.parseIntB 64 l with
  | .ok n => if Lib.itoa n = l then some n else none
  | _ => none
theorem numW_some {l : List UInt8} {n : Int} (h : numW l = some n) : Lib.parseIntB 64 l = .ok n ∧ Lib.itoa n = l ∧ small64 n := by
  unfold numW at h
  split at h
  · rename_i m hm
    split at h
    · rename_i hi
      obtain rfl := Option.some.inj h
      have := Lib.parseIntB_bounds hm
      exact ⟨hm, hi, by unfold small64; simp at this; omega⟩
    · cases h
  · cases h
theorem numW_of {l : List UInt8} {n : Int} (h : Lib.parseIntB 64 l = .ok n) : numW l = if Lib.itoa n = l then some n else none := by
  unfold numW
  rw [h]
theorem ptrE_ne (k : Nat) (w : World) : (binOp .neq 45 (.iface 256 (.pointer (some ⟨k, 0, none⟩))) .nilIface).run Tryz.prog w = .ok (.bool true) w := by kernel_rfl
theorem nilE_ne (w : World) : (binOp .neq 45 .nilIface .nilIface).run Tryz.prog w = .ok (.bool false) w := by kernel_rfl
theorem intE_ne (n : Int) (w : World) : (binOp .neq 45 (.iface 25 (.int .i64 n)) .nilIface).run Tryz.prog w = .ok (.bool true) w := by kernel_rfl
set_option maxRecDepth 100000 in
set_option maxHeartbeats 1000000 in
theorem number_ok (l : List UInt8) (hl : l.length ≤ 30000) (n : Int) (h : numW l = some n) (w : World) (hP : Pow w) :
    Calls Tryz.prog 72 #[.string (textL l)] w fun e w' => e = .returned (.int .i64 n) ∧ Below w.heap.size w w' := by
  obtain ⟨h1, h2, h3⟩ := numW_some h
  have A := hide (parseInt_ok (textL l) hl n h1 w)
  have F := hide (fun wx (hp : Pow wx) => format_any n h3 wx hp)
  rw [h2] at F
  have PP := hide (fun wx (hb : Below w.heap.size w wx) => hP.below hb hP.lt)
  have e1 := nilE_ne
  generalize textL l = T at A F
  clear hP h h1 h2 h3
  go_enter Tryz.func72, Tryz.ntmps72
  go_upto_region 2 with (go_at_call 105; (with_reducible refine A.out.mono ?_); rintro y w1 ⟨rfl, hb⟩; have B1 := hide hb; clear hb)
  have F1 := hide (F.out w1 (PP.out _ B1.out))
  go_wp2_with (go_at_call 106; (with_reducible refine F1.out.mono ?_); rintro y w2 ⟨rfl, hb⟩; have B2 := hide (B1.out.trans (hb.mono B1.out.size)); clear hb)
  go_ret
  exact ⟨rfl, B2.out⟩
set_option maxRecDepth 100000 in
set_option maxHeartbeats 1000000 in
theorem number_bad (l : List UInt8) (hl : l.length ≤ 30000) (h : numW l = none) (w : World) (hP : Pow w) (hS : ErrS w) (hE : TabE w) :
    Calls Tryz.prog 72 #[.string (textL l)] w fun e w' => e = thrown 3 ∧ Below w.heap.size w w' := by
  have PP := hide (fun wx (hb : Below w.heap.size w wx) => hP.below hb hP.lt)
  have EE := hide (fun wx (hb : Below w.heap.size w wx) => hE.below hb hE.lt)
  have TH := hide (fun wx (he : TabE wx) => throw_any 3 wx he)
  by_cases hk : ∃ n, Lib.parseIntB 64 l = .ok n
  · obtain ⟨n, hn⟩ := hk
    have hne : Lib.itoa n ≠ l := fun e => by
      rw [numW_of hn, if_pos e] at h
      cases h
    have h3 : small64 n := by
      have := Lib.parseIntB_bounds hn
      unfold small64; simp at this; omega
    have A := hide (parseInt_ok (textL l) hl n hn w)
    have F := hide (fun wx (hp : Pow wx) => format_any n h3 wx hp)
    have e1 := nilE_ne
    have d1 : ((textL (Lib.itoa n)).toList == (textL l).toList) = false := by
      rw [ByteArray.toList_eq, ByteArray.toList_eq, beq_eq_false_iff_ne]
      exact hne
    generalize textL l = T at A F d1 ⊢
    generalize textL (Lib.itoa n) = U at F d1
    clear hP hE h hn hne h3
    go_enter Tryz.func72, Tryz.ntmps72
    go_upto_region 2 with (go_at_call 105; (with_reducible refine A.out.mono ?_); rintro y w1 ⟨rfl, hb⟩; have B1 := hide hb; clear hb)
    have F1 := hide (F.out w1 (PP.out _ B1.out))
    go_upto_region 3 with (go_at_call 106; (with_reducible refine F1.out.mono ?_); rintro y w2 ⟨rfl, hb⟩; have B2 := hide (B1.out.trans (hb.mono B1.out.size)); clear hb)
    have T1 := hide (TH.out w2 (EE.out _ B2.out))
    go_wp2_with (go_at_call 49; (with_reducible refine T1.out.mono ?_); rintro y w3 ⟨rfl, hb⟩; have B3 := hide (B2.out.trans (hb.mono B2.out.size)); clear hb)
    exact ⟨rfl, rfl, B3.out⟩
  · have A := hide (parseInt_bad (textL l) hl (fun n hn => hk ⟨n, hn⟩) w hS)
    have e1 := ptrE_ne
    generalize textL l = T at A ⊢
    clear hP hE h hk
    go_enter Tryz.func72, Tryz.ntmps72
    go_upto_region 2 with (go_at_call 105; (with_reducible refine A.out.mono ?_); rintro y w1 ⟨m, k, rfl, hb⟩; have B1 := hide hb; clear hb)
    have T1 := hide (TH.out w1 (EE.out _ B1.out))
    go_wp2_with (go_at_call 49; (with_reducible refine T1.out.mono ?_); rintro y w3 ⟨rfl, hb⟩; have B3 := hide (B1.out.trans (hb.mono B1.out.size)); clear hb)
    exact ⟨rfl, rfl, B3.out⟩
end Go.Proofs.YtdjpghgnjcmdnaaGreatDoor

/- What is told: a word, and what is told behind it; texts appended to texts. -/
namespace Go.Proofs.YtdjpghgnjcmdnaaGreatDoor
open Go.RowKit Go.Shelf Go.Sort
attribute [local go_sem ↓] Go.wp_at_zero Go.wp_at_succ
theorem info9s : (Tryz.prog.info? 9).map (fun i => (i.zero, i.size, i.bytes)) = some (some (.string ⟨#[]⟩), 1, 16) := by kernel_rfl
/-- append(v, ps...): whatever slice the texts lie in. -/
theorem app_strs {ops : Array Oper} {rest : List Oper} {o : Oper} {a : Act} {w : World} {Q : Exit → Act → World → Prop} (hgd : o.guard = none) (s x : Operand) (ho : o.op = .call { callee := .builtin .append, args := #[s, x], argTypes := #[61, 61] }) (base : Nat) (v : Value) (n : Nat) (xs : List Value) (hs : a.eval s = v) (hown : w.ownsRow base 9 1 v n xs) (vm : Value) (ps : List ByteArray) (hx : a.eval x = vm) (hvm : Parts w vm ps) (h63 : n + ps.length ≤ 100000) (hbase : base ≤ w.heap.size)
    (h : ∀ v' w', w'.ownsRow base 9 1 v' (n + ps.length) (xs ++ ps.map Value.string) → w.grownBy w' v.ownBlock → wpList Tryz.prog ops Q rest (a.put o.dst v') w') : wpList Tryz.prog ops Q (o :: rest) a w := by
  obtain ⟨i0, hi, hz0, hz1, hz2⟩ := info_parts info9s
  obtain ⟨ao, cap, rfl, hP⟩ := hvm
  rcases hP with rfl | ⟨b, off, rfl, hb, hc⟩
  · cases ao with
    | none =>
      obtain ⟨p, c, rfl⟩ : ∃ p c, v = .slice p n c := by
        rcases hown.2 with ⟨e, e0⟩ | ⟨g, cap', cur, e, _⟩
        · exact ⟨none, 0, by rw [e, e0]⟩
        · exact ⟨_, _, e⟩
      have hle : n ≤ c := by
        rcases hown.2 with ⟨e1, e0⟩ | ⟨g, cap', cur, e1, _, _, a1, _⟩
        · omega
        · simp only [Value.slice.injEq] at e1
          rw [e1.2.2]; exact a1
      have hrun : (Builtin.append_ #[61, 61] o.type #[.slice p n c, .slice none 0 cap]).run Tryz.prog w = .ok (.slice p n c) w := by
        cases p <;> simp [Builtin.append_, run_underlying Tryz.underlying61, sizeOf, typeInfo, hi, Builtin.lenOf, Builtin.firstCells, storeCells, hle]
      refine wpList_plain hgd fun K hK => ?_
      unfold Oper.wp execOp
      simp only [ho, resolve, invoke, builtin, Sem.run_bind, Sem.run_pure, Result.andThen_ok, List.map_toArray, List.map_cons, List.map_nil, hs, hx, hrun, List.length_nil]
      exact hK _ _ (h _ _ (by simpa using hown) ⟨rfl, rfl, rfl, Nat.le_refl _, fun _ _ _ => rfl⟩)
    | some ad =>
      exact wpList_append_own w hgd s x 61 ho base 9 i0 _ 1 16 Tryz.underlying61 hi hz0 hz1 hz2 rfl (by omega) v n xs hs hown ad 0 cap [] hx rfl (fun j u hj => by simp at hj) (fun u hu => by simp at hu) (by unfold maxLen; simp at h63; omega) (by simp at h63; omega) hbase (fun v' w' h1 h2 _ => h v' w' h1 h2)
  · exact wpList_append_own w hgd s x 61 ho base 9 i0 _ 1 16 Tryz.underlying61 hi hz0 hz1 hz2 rfl (by omega) v n xs hs hown ⟨b, off, none⟩ ps.length cap (ps.map Value.string) hx (by simp) (fun j u hj => by
      obtain ⟨p, hp, rfl⟩ := by simpa [List.getElem?_map] using hj
      have hlt : j < ps.length := (List.getElem?_eq_some_iff.1 hp).1
      rw [Addr.add_lit, hc j hlt, List.getD_eq_getElem?_getD, hp]
      rfl) (fun u hu => by
      obtain ⟨p, _, rfl⟩ := List.mem_map.1 hu
      rfl) (by unfold maxLen; omega) (by omega) hbase (fun v' w' h1 h2 _ => h v' w' h1 h2)
/-- A word, and texts behind it, with a blank ahead of each. -/
def toldL (word : ByteArray) (ps : List ByteArray) : List UInt8 := Lib.join ((word :: ps).map (·.data.toList)) [32]
theorem owns_form {w : World} {base n : Nat} {e : TypeId} {size : Nat} {v : Value} {xs : List Value} (h : w.ownsRow base e size v (n + 1) xs) : ∃ g cap, v = .slice (some ⟨g, 0, none⟩) (n + 1) cap ∧ n + 1 ≤ cap ∧ base ≤ g ∧ g < w.heap.size := by
  rcases h.2 with ⟨e1, e0⟩ | ⟨g, cap', cur, e1, hb, hg, a1, _⟩
  · omega
  · exact ⟨g, cap', e1, a1, hb, lt_of_block hg⟩
set_option maxRecDepth 100000 in
set_option maxHeartbeats 1000000 in
theorem tell_any (word : ByteArray) (v : Value) (ps : List ByteArray) (w : World) (hP : Parts w v ps) (hn : ps.length ≤ 20000) (hl : (toldL word ps).length ≤ 100000000) :
    Calls Tryz.prog 12 #[.string word, v] w fun e w' => e = .returned (.string (textL (toldL word ps))) ∧ Below w.heap.size w w' := by
  have hown := World.ownsRow_lit (base := w.heap.size) (e := 9) (size := 1) w #[.string word] 1 (Nat.le_refl _) (by unfold maxLen; omega) rfl
  have O1 := hide hown
  have P1 := hide (hP.below ((Below.refl w.heap.size w).alloc (Nat.le_refl _) (.cells #[.string word] 9)) rfl)
  have hsz : (w.alloc (.cells #[.string word] 9)).heap.size = w.heap.size + 1 := by simp
  have B1 := hide ((Below.refl w.heap.size w).alloc (Nat.le_refl _) (.cells #[.string word] 9))
  have JN : Hid (∀ (g cap : Nat) (wx : World), (∀ (j : Nat) x, (word :: ps)[j]? = some x → wx.cell? ⟨g, 0 + j, none⟩ = some (.string x)) → g < wx.heap.size → ps.length + 1 ≤ cap → Calls Tryz.prog 38 #[.slice (some ⟨g, 0, none⟩) (ps.length + 1) cap, .string ⟨#[32]⟩] wx fun e w' => e = .returned (.string (textL (toldL word ps))) ∧ Below wx.heap.size wx w') :=
    hide (fun g cap wx hc hg hcap => Any.strings_Join dLays156 dExtra156 g 0 cap (word :: ps) ⟨#[32]⟩ wx hc hg (by simp; omega) hcap (Nat.le_trans hl (by omega)))
  generalize textL (toldL word ps) = T at JN ⊢
  clear hown hP hl
  go_enter Tryz.func12, Tryz.ntmps12
  go_wp2_with (first
    | (at_builtin; refine app_strs rfl _ _ rfl w.heap.size _ 1 [.string word] rfl O1.out _ ps rfl P1.out (by omega) (by simp) ?_; intro v' w2 hown' hg2; rw [Nat.add_comm 1 ps.length] at hown'; obtain ⟨g, cap, rfl, hc1, hb1, hlt1⟩ := owns_form hown'; have J1 := hide (JN.out g cap w2 (fun j x hj => by (have hj2 : j < (ps.length + 1) * 1 := by (have := (List.getElem?_eq_some_iff.1 hj).1; simp at this; omega)); (have h3 := World.ownsRow.cellAt hown' j hj2); rw [Nat.zero_add, h3]; (have h4 : ([Value.string word] ++ ps.map Value.string) = (word :: ps).map Value.string := rfl); rw [h4, List.getElem?_map, hj]; rfl) hlt1 hc1); have B2 := hide (B1.out.grown hg2 B1.out.size (fun k hk => (O1.out.lt k hk).1)); clear hown' hg2 hc1 hb1; go_frame)
    | (go_at_call 38; (with_reducible refine J1.out.mono ?_); rintro y w3 ⟨rfl, hb3⟩; have B3 := hide (B2.out.trans (hb3.mono B2.out.size)); clear hb3))
  go_ret
  exact ⟨rfl, B3.out⟩
end Go.Proofs.YtdjpghgnjcmdnaaGreatDoor

/- A range over a function whose iterator writes into a box of its own: the law that a session's walk leans on. -/
namespace Go.Proofs.YtdjpghgnjcmdnaaGreatDoor
open Go.RowKit
/-- An iterator that may write into its box, told of every round that it goes on. -/
def BoxSeq {α : Type} (F : Fence) (n : Nat) (P : Program) (g : Nat) (lb : Array Value) (encs : α → Array Value) (Kp : World → World → Prop) (S : List α → Prop) (N box : Nat) (w : World) : Prop :=
  ∀ (l : Nat) (J : List α → World → Prop) (W : World), Below w.heap.size w W → (∀ s X v, J s X → J s (X.setCell ⟨box, 0, none⟩ v)) →
    (∀ pre x W1, J pre W1 → pre.length < N → YieldAt F (n - 1) P l (encs x) W1 fun e W' => e = .returned (.bool true) ∧ J (pre ++ [x]) W' ∧ Kp W1 W') →
    J [] W → CallsIn F n P g (#[.func (.yield l) #[] #[]] ++ lb) W fun e W' => (∃ v, e = .returned v) ∧ ∃ xs, S xs ∧ J xs W'
/-- The two blocks of a loop's own book-keeping. -/
structure Book (w W : World) (r : Loop) : Prop where
  loop : W.heap[w.heap.size + 1]? = some (.loop r)
  door : W.heap[w.heap.size]? = some (.deferred (some []))
theorem Book.lt {w W : World} {r : Loop} (h : Book w W r) : w.heap.size + 1 < W.heap.size := (Array.getElem?_eq_some_iff.1 h.loop).1
theorem Book.put {w W : World} {r r' : Loop} (h : Book w W r) : Book w (W.putObj (w.heap.size + 1) (.loop r')) r' :=
  ⟨World.putObj_heap_same h.lt, (World.putObj_heap_other (by omega)).trans h.door⟩
/-- A loop's record, a row of deferred calls: what no desk has. -/
def bookB (o : Obj) : Prop := (∃ l, o = .loop l) ∨ ∃ d, o = .deferred d
/-- What such blocks are no part of. -/
def Aside {β : Type} (B : Nat) (I : β → World → Prop) : Prop :=
  ∀ s W W' row, I s W → W.grownBy W' row → (∀ r, row = some r → B ≤ r ∧ ∃ o : Obj, W.heap[r]? = some o ∧ bookB o) → I s W'
theorem Aside.alloc {β : Type} {B : Nat} {I : β → World → Prop} (h : Aside B I) {s : β} {W : World} (o : Obj) (hs : I s W) : I s (W.alloc o) :=
  h s W _ none hs (World.grownBy_alloc W o none) (fun r e => by cases e)
theorem Aside.put {β : Type} {B : Nat} {I : β → World → Prop} (h : Aside B I) {s : β} {W : World} {l : Nat} {o o' : Obj} (hs : I s W) (hl : B ≤ l) (hW : W.heap[l]? = some o) (hb : bookB o) : I s (W.putObj l o') :=
  h s W _ (some l) hs (grownBy_putObj' W l o') (fun r e => by cases e; exact ⟨hl, o, hW, hb⟩)
set_option maxHeartbeats 1000000 in
theorem range_box {α : Type} {F : Fence} {n : Nat} {P : Program} {g : Operand} {ps : Array Tmp} {assign body : Code} {Q : Exit → Act → World → Prop} {a : Act} {w : World}
    (hro : F.round = none) (h1 : 1 ≤ n) {gf : Nat} {lb : Array Value} (hg : a.eval g = .func (.func gf) #[] lb) (hFg : F.fn gf) (eg : ∀ args w, (callFunc gf args).run P w = .ok (.enter gf args) w)
    {encs : α → Array Value} {Kp : World → World → Prop} {S : List α → Prop} {N box : Nat} (hseq : BoxSeq F (n - 1) P gf lb encs Kp S N box w)
    (hKt : ∀ {A B C : World}, Kp A B → Kp B C → Kp A C) (hKb : ∀ (W : World) (l : Nat) (o o' : Obj), w.heap.size ≤ l → W.heap[l]? = some o → o.isCells = false → o.isWalk = false → Kp W (W.putObj l o')) (hps : ∀ x, (encs x).size = ps.size)
    (I : List α → World → Prop) (hI : Aside w.heap.size I) (hIb : ∀ s X v, I s X → I s (X.setCell ⟨box, 0, none⟩ v)) (h0 : I [] w) (a₁ : α → Act)
    (hassign : ∀ (l : Nat) (x : α) (W : World) (K : Act → World → Prop), K (a₁ x) W → assign.wpIn (F.inRound l) (n - 1 - 1) P (Exit.then K (fun _ _ _ => False)) { tmps := (ps.zip (encs x)).foldl (fun t (p, v) => t.setIfInBounds p v) a.tmps, defers := [] } W)
    (hbody : ∀ (l : Nat) (pre : List α) (x : α) (W : World), I pre W → pre.length < N → body.wpIn (F.inRound l) (n - 1 - 1) P (fun e _ W' => e = .normal ∧ (∀ r, Book w W r → Book w W' r) ∧ Kp W W' ∧ I (pre ++ [x]) W') (a₁ x) W)
    (hdone : ∀ (D : Nat) (xs : List α) (W : World), w.heap.size ≤ D → S xs → I xs W → W.heap[D]? = some (.deferred (some [])) → Q .normal { a with defers := { target := .collected D, args := #[] } :: a.defers } W) :
    (Code.rangeFunc g ps assign body).wpIn F n P Q a w := by
  refine wpIn_rangeFunc fun fn hfn => ?_
  rw [hro]
  have hrec : ∃ r : LoopState → Loop, ∀ st, r st = { state := st, pending := none, fn, tmps := a.tmps, params := ps, assign, body, defers := w.heap.size } := ⟨_, fun _ => rfl⟩
  obtain ⟨r, hr⟩ := hrec
  have hbox2 : ∀ (X : World) (v : Value) (k : Nat) (o : Obj), X.heap[k]? = some o → o.isCells = false → (X.setCell ⟨box, 0, none⟩ v).heap[k]? = some o := fun X v k o hk ho => (KeepsOthers.setCell X ⟨box, 0, none⟩ v).same k o hk ho
  obtain ⟨W1, hW1⟩ : ∃ W1, (w.alloc (.deferred (some []))).alloc (.loop (r .ready)) = W1 := ⟨_, rfl⟩
  have bk1 : Book w W1 (r .ready) := by
    rw [← hW1]
    refine ⟨?_, (Below.heap_alloc _ _ _ (by simp)).trans (World.alloc_heap_new w _)⟩
    have := World.alloc_heap_new (w.alloc (.deferred (some []))) (.loop (r .ready))
    rwa [World.size_alloc] at this
  have hb1 : Below w.heap.size w W1 := by
    rw [← hW1]
    exact ((Below.refl _ w).alloc (Nat.le_refl _) _).alloc (by simp) _
  have hi1 : I [] W1 := by
    rw [← hW1]
    exact hI.alloc _ (hI.alloc _ h0)
  refine ⟨w.heap.size + 1, [{ target := .collected w.heap.size, args := #[] }], W1, { target := .fn (.func gf) lb, args := #[.func (.yield (w.heap.size + 1)) #[] #[]] }, W1, gf, #[.func (.yield (w.heap.size + 1)) #[] #[]] ++ lb, W1, ?_, ?_, ?_, ?_, fun _ => h1, ?_⟩
  · rw [← hW1, hr]
    exact run_enterLoop_outer _ _ _ _ _
  · simp only [resolve, hg]
    simp [go_sem]
  · intro f' hf'
    simp [Target.leads] at hf'
    subst hf'
    exact hFg
  · simp [invoke, go_sem, eg]
  · refine (hseq (w.heap.size + 1) (fun pre W => I pre W ∧ Book w W (r .ready)) W1 hb1 ?stores ?round ⟨hi1, bk1⟩).mono ?post
    case stores => exact fun s X v hs => ⟨hIb s X v hs.1, hbox2 X v _ _ hs.2.loop rfl, hbox2 X v _ _ hs.2.door rfl⟩
    case round =>
      rintro pre x W ⟨hi, bk⟩ hlen
      have hy := run_yield (P := P) (args := encs x) bk.loop (by rw [hr]; exact hps x)
      rw [hr] at hy
      refine ⟨fn, _, assign, body, hy, roundIn_of_wpIn hfn (hassign _ x W _ ?_)⟩
      refine ⟨_, run_beginRound bk.loop (by rw [hr]), ?_⟩
      have bk2 := bk.put (r' := { r .ready with state := .busy })
      refine wpIn_mono (hbody _ pre x _ (hI.put hi (by omega) bk.loop (.inl ⟨_, rfl⟩)) hlen) ?_
      rintro e a3 W3 ⟨rfl, hk3, hp3, hi3⟩
      have bk3 := hk3 _ bk2
      have he := run_endRound (P := P) none bk3.loop
      have bk4 := bk3.put (r' := r .ready)
      rw [hr] at he bk4 bk3
      exact ⟨_, _, he, rfl, ⟨hI.put hi3 (by omega) bk3.loop (.inl ⟨_, rfl⟩), by rw [hr]; exact bk4⟩, hKt (hKt (hKb _ _ _ _ (by omega) bk.loop rfl rfl) hp3) (hKb _ _ _ _ (by omega) bk3.loop rfl rfl)⟩
    case post =>
      rintro e W2 ⟨⟨v, rfl⟩, xs, hS, hi, bk⟩
      have he := run_endLoop (P := P) bk.loop (by rw [hr]; simp)
      rw [hr] at he
      exact ⟨none, _, he, hdone _ xs _ (Nat.le_refl _) hS (hI.put hi (by omega) bk.loop (.inl ⟨_, rfl⟩)) ((World.putObj_heap_other (by omega)).trans bk.door)⟩
end Go.Proofs.YtdjpghgnjcmdnaaGreatDoor
